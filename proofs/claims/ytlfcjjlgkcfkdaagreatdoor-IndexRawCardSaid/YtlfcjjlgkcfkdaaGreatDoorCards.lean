/-
  DERIVED. GIVEN WITH THE SEED: THE CARDS: each row of YtlfcjjlgkcfkdaaGreatDoorRows.lean that lists a variable, with what it lists TIED to the program's text (the seventh form; the later family's looks); each row that meets fmt, with fmt's text TOLD by the authors' own Lean function (tested against real Go, not proved from fmt's source: count such statements apart). THE CARD IS WHAT COUNTS. Prove the row's statement (the work); the ties are given (YtlfcjjlgkcfkdaaGreatDoorTie.lean); close each card by the builder's one call (the guide's Derived/Test/ToyasCard.lean, 'card_holds'). Laid BY PROGRAM, IN A SANDBOX (cutbox-door.mjs). By AI agents, Wed Nov 11 2026. No macro, syntax, notation, axiom, sorry.
-/
import Derived.Test.YtlfcjjlgkcfkdaaGreatDoorRows
import GoSem.ClaimSeven
namespace Go.Proofs.YtlfcjjlgkcfkdaaGreatDoor
namespace Rows

/-- THE TIED CARD OF 'sordinelaw10.IndexRuns'. -/
def indexRunsCard : Claim7 := { stood := { row := indexRunsRow, standIns := [], harness := (true, "3df961e9ea50c0e741db99e87a4f196378a7554143bd4a93e924b9bd2fa879c8"), looks := false }, kinds := [], alts := [], laidByText := true, laidKinds := [.data], laidTests := true, laidLooks := .later }
def IndexRunsCardSaid : Prop := Claim7.holds Tryz.pinned (.plain (OpenSpec.ofChange indexRunsSpec)) indexRunsCard

/-- THE TIED CARD OF 'sordinelaw10.IndexPlays'. -/
def indexPlaysCard : Claim7 := { stood := { row := indexPlaysRow, standIns := [], harness := (true, "3df961e9ea50c0e741db99e87a4f196378a7554143bd4a93e924b9bd2fa879c8"), looks := false }, kinds := [], alts := [], laidByText := true, laidKinds := [.data], laidTests := true, laidLooks := .later }
def IndexPlaysCardSaid : Prop := Claim7.holds Tryz.pinned (.plain (OpenSpec.ofChange indexPlaysSpec)) indexPlaysCard

/-- THE TIED CARD OF 'sordinelaw10.IndexValues'. -/
def indexValuesCard : Claim7 := { stood := { row := indexValuesRow, standIns := [], harness := (true, "3df961e9ea50c0e741db99e87a4f196378a7554143bd4a93e924b9bd2fa879c8"), looks := false }, kinds := [], alts := [], laidByText := true, laidKinds := [.data], laidTests := true, laidLooks := .later }
def IndexValuesCardSaid : Prop := Claim7.holds Tryz.pinned (.plain (OpenSpec.ofChange indexValuesSpec)) indexValuesCard

/-- THE TIED CARD OF 'sordinelaw10.IndexFinds'. -/
def indexFindsCard : Claim7 := { stood := { row := indexFindsRow, standIns := [], harness := (true, "3df961e9ea50c0e741db99e87a4f196378a7554143bd4a93e924b9bd2fa879c8"), looks := false }, kinds := [], alts := [], laidByText := true, laidKinds := [.data], laidTests := true, laidLooks := .later }
def IndexFindsCardSaid : Prop := Claim7.holds Tryz.pinned (.plain (OpenSpec.ofChange indexFindsSpec)) indexFindsCard

/-- THE TIED CARD OF 'sordinelaw10.IndexParts'. -/
def indexPartsCard : Claim7 := { stood := { row := indexPartsRow, standIns := [], harness := (true, "3df961e9ea50c0e741db99e87a4f196378a7554143bd4a93e924b9bd2fa879c8"), looks := false }, kinds := [], alts := [], laidByText := true, laidKinds := [.data], laidTests := true, laidLooks := .later }
def IndexPartsCardSaid : Prop := Claim7.holds Tryz.pinned (.plain (OpenSpec.ofChange indexPartsSpec)) indexPartsCard

/-- THE TIED CARD OF 'sordinelaw10.IndexRaw'. -/
def indexRawCard : Claim7 := { stood := { row := indexRawRow, standIns := [], harness := (true, "3df961e9ea50c0e741db99e87a4f196378a7554143bd4a93e924b9bd2fa879c8"), looks := false }, kinds := [], alts := [], laidByText := true, laidKinds := [.data], laidTests := true, laidLooks := .later }
def IndexRawCardSaid : Prop := Claim7.holds Tryz.pinned (.plain (OpenSpec.ofChange indexRawSpec)) indexRawCard

/-- THE SECOND FORM's CARD OF 'sordinelaw10.IndexRuns'. -/
def indexRunsUptoCard : Claim7 := { stood := { row := indexRunsUptoRow, standIns := [], harness := (true, "3df961e9ea50c0e741db99e87a4f196378a7554143bd4a93e924b9bd2fa879c8"), looks := false }, kinds := [], alts := [], laidByText := true, laidKinds := [.data], laidTests := true, laidLooks := .later }
def IndexRunsUptoCardSaid : Prop := Claim7.holds Tryz.pinned (.plain (OpenSpec.upto indexRunsSpec)) indexRunsUptoCard

/-- THE SECOND FORM's CARD OF 'sordinelaw10.IndexPlays'. -/
def indexPlaysUptoCard : Claim7 := { stood := { row := indexPlaysUptoRow, standIns := [], harness := (true, "3df961e9ea50c0e741db99e87a4f196378a7554143bd4a93e924b9bd2fa879c8"), looks := false }, kinds := [], alts := [], laidByText := true, laidKinds := [.data], laidTests := true, laidLooks := .later }
def IndexPlaysUptoCardSaid : Prop := Claim7.holds Tryz.pinned (.plain (OpenSpec.upto indexPlaysSpec)) indexPlaysUptoCard

/-- THE SECOND FORM's CARD OF 'sordinelaw10.IndexValues'. -/
def indexValuesUptoCard : Claim7 := { stood := { row := indexValuesUptoRow, standIns := [], harness := (true, "3df961e9ea50c0e741db99e87a4f196378a7554143bd4a93e924b9bd2fa879c8"), looks := false }, kinds := [], alts := [], laidByText := true, laidKinds := [.data], laidTests := true, laidLooks := .later }
def IndexValuesUptoCardSaid : Prop := Claim7.holds Tryz.pinned (.plain (OpenSpec.upto indexValuesSpec)) indexValuesUptoCard

/-- THE SECOND FORM's CARD OF 'sordinelaw10.IndexFinds'. -/
def indexFindsUptoCard : Claim7 := { stood := { row := indexFindsUptoRow, standIns := [], harness := (true, "3df961e9ea50c0e741db99e87a4f196378a7554143bd4a93e924b9bd2fa879c8"), looks := false }, kinds := [], alts := [], laidByText := true, laidKinds := [.data], laidTests := true, laidLooks := .later }
def IndexFindsUptoCardSaid : Prop := Claim7.holds Tryz.pinned (.plain (OpenSpec.upto indexFindsSpec)) indexFindsUptoCard

/-- THE SECOND FORM's CARD OF 'sordinelaw10.IndexParts'. -/
def indexPartsUptoCard : Claim7 := { stood := { row := indexPartsUptoRow, standIns := [], harness := (true, "3df961e9ea50c0e741db99e87a4f196378a7554143bd4a93e924b9bd2fa879c8"), looks := false }, kinds := [], alts := [], laidByText := true, laidKinds := [.data], laidTests := true, laidLooks := .later }
def IndexPartsUptoCardSaid : Prop := Claim7.holds Tryz.pinned (.plain (OpenSpec.upto indexPartsSpec)) indexPartsUptoCard

/-- THE SECOND FORM's CARD OF 'sordinelaw10.IndexRaw'. -/
def indexRawUptoCard : Claim7 := { stood := { row := indexRawUptoRow, standIns := [], harness := (true, "3df961e9ea50c0e741db99e87a4f196378a7554143bd4a93e924b9bd2fa879c8"), looks := false }, kinds := [], alts := [], laidByText := true, laidKinds := [.data], laidTests := true, laidLooks := .later }
def IndexRawUptoCardSaid : Prop := Claim7.holds Tryz.pinned (.plain (OpenSpec.upto indexRawSpec)) indexRawUptoCard
end Rows
end Go.Proofs.YtlfcjjlgkcfkdaaGreatDoor
