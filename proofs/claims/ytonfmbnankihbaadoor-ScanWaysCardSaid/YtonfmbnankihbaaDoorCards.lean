/-
  DERIVED. GIVEN WITH THE SEED: THE CARDS: each row of YtonfmbnankihbaaDoorRows.lean that lists a variable, with what it lists TIED to the program's text (the seventh form; the later family's looks); each row that meets fmt, with fmt's text TOLD by the authors' own Lean function (tested against real Go, not proved from fmt's source: count such statements apart). THE CARD IS WHAT COUNTS. Prove the row's statement (the work); the ties are given (YtonfmbnankihbaaDoorTie.lean); close each card by the builder's one call (the guide's Derived/Test/ToyasCard.lean, 'card_holds'). Laid BY PROGRAM, IN A SANDBOX (cutbox-door.mjs). By AI agents, Wed Nov 11 2026. No macro, syntax, notation, axiom, sorry.
-/
import Derived.Test.YtonfmbnankihbaaDoorRows
import GoSem.ClaimSeven
namespace Go.Proofs.YtonfmbnankihbaaDoor
namespace Rows

/-- THE TIED CARD OF 'sordinelaw7.ScanRuns'. -/
def scanRunsCard : Claim7 := { stood := { row := scanRunsRow, standIns := [], harness := (true, "86208c1ffcb3d6e00c724843d3f05a63c17e3856fa3f5fd7e6c350c6b661bbf8"), looks := false }, kinds := [], alts := [], laidByText := true, laidKinds := [.data], laidTests := true, laidLooks := .later }
def ScanRunsCardSaid : Prop := Claim7.holds Tryd.pinned (.plain (OpenSpec.ofChange scanRunsSpec)) scanRunsCard

/-- THE TIED CARD OF 'sordinelaw7.ScanSets'. -/
def scanSetsCard : Claim7 := { stood := { row := scanSetsRow, standIns := [], harness := (true, "86208c1ffcb3d6e00c724843d3f05a63c17e3856fa3f5fd7e6c350c6b661bbf8"), looks := false }, kinds := [], alts := [], laidByText := true, laidKinds := [.data], laidTests := true, laidLooks := .later }
def ScanSetsCardSaid : Prop := Claim7.holds Tryd.pinned (.plain (OpenSpec.ofChange scanSetsSpec)) scanSetsCard

/-- THE TIED CARD OF 'sordinelaw7.ScanMatch'. -/
def scanMatchCard : Claim7 := { stood := { row := scanMatchRow, standIns := [], harness := (true, "86208c1ffcb3d6e00c724843d3f05a63c17e3856fa3f5fd7e6c350c6b661bbf8"), looks := false }, kinds := [], alts := [], laidByText := true, laidKinds := [.data], laidTests := true, laidLooks := .later }
def ScanMatchCardSaid : Prop := Claim7.holds Tryd.pinned (.plain (OpenSpec.ofChange scanMatchSpec)) scanMatchCard

/-- THE TIED CARD OF 'sordinelaw7.ScanTrees'. -/
def scanTreesCard : Claim7 := { stood := { row := scanTreesRow, standIns := [], harness := (true, "86208c1ffcb3d6e00c724843d3f05a63c17e3856fa3f5fd7e6c350c6b661bbf8"), looks := false }, kinds := [], alts := [], laidByText := true, laidKinds := [.data], laidTests := true, laidLooks := .later }
def ScanTreesCardSaid : Prop := Claim7.holds Tryd.pinned (.plain (OpenSpec.ofChange scanTreesSpec)) scanTreesCard

/-- THE TIED CARD OF 'sordinelaw7.ScanPatterns'. -/
def scanPatternsCard : Claim7 := { stood := { row := scanPatternsRow, standIns := [], harness := (true, "86208c1ffcb3d6e00c724843d3f05a63c17e3856fa3f5fd7e6c350c6b661bbf8"), looks := false }, kinds := [], alts := [], laidByText := true, laidKinds := [.data], laidTests := true, laidLooks := .later }
def ScanPatternsCardSaid : Prop := Claim7.holds Tryd.pinned (.plain (OpenSpec.ofChange scanPatternsSpec)) scanPatternsCard

/-- THE TIED CARD OF 'sordinelaw7.ScanWays'. -/
def scanWaysCard : Claim7 := { stood := { row := scanWaysRow, standIns := [], harness := (true, "86208c1ffcb3d6e00c724843d3f05a63c17e3856fa3f5fd7e6c350c6b661bbf8"), looks := false }, kinds := [], alts := [], laidByText := true, laidKinds := [.data], laidTests := true, laidLooks := .later }
def ScanWaysCardSaid : Prop := Claim7.holds Tryd.pinned (.plain (OpenSpec.ofChange scanWaysSpec)) scanWaysCard

/-- THE TIED CARD OF 'sordinelaw7.ScanStates'. -/
def scanStatesCard : Claim7 := { stood := { row := scanStatesRow, standIns := [], harness := (true, "86208c1ffcb3d6e00c724843d3f05a63c17e3856fa3f5fd7e6c350c6b661bbf8"), looks := false }, kinds := [], alts := [], laidByText := true, laidKinds := [.data], laidTests := true, laidLooks := .later }
def ScanStatesCardSaid : Prop := Claim7.holds Tryd.pinned (.plain (OpenSpec.ofChange scanStatesSpec)) scanStatesCard

/-- THE SECOND FORM's CARD OF 'sordinelaw7.ScanRuns'. -/
def scanRunsUptoCard : Claim7 := { stood := { row := scanRunsUptoRow, standIns := [], harness := (true, "86208c1ffcb3d6e00c724843d3f05a63c17e3856fa3f5fd7e6c350c6b661bbf8"), looks := false }, kinds := [], alts := [], laidByText := true, laidKinds := [.data], laidTests := true, laidLooks := .later }
def ScanRunsUptoCardSaid : Prop := Claim7.holds Tryd.pinned (.plain (OpenSpec.upto scanRunsSpec)) scanRunsUptoCard

/-- THE SECOND FORM's CARD OF 'sordinelaw7.ScanSets'. -/
def scanSetsUptoCard : Claim7 := { stood := { row := scanSetsUptoRow, standIns := [], harness := (true, "86208c1ffcb3d6e00c724843d3f05a63c17e3856fa3f5fd7e6c350c6b661bbf8"), looks := false }, kinds := [], alts := [], laidByText := true, laidKinds := [.data], laidTests := true, laidLooks := .later }
def ScanSetsUptoCardSaid : Prop := Claim7.holds Tryd.pinned (.plain (OpenSpec.upto scanSetsSpec)) scanSetsUptoCard

/-- THE SECOND FORM's CARD OF 'sordinelaw7.ScanMatch'. -/
def scanMatchUptoCard : Claim7 := { stood := { row := scanMatchUptoRow, standIns := [], harness := (true, "86208c1ffcb3d6e00c724843d3f05a63c17e3856fa3f5fd7e6c350c6b661bbf8"), looks := false }, kinds := [], alts := [], laidByText := true, laidKinds := [.data], laidTests := true, laidLooks := .later }
def ScanMatchUptoCardSaid : Prop := Claim7.holds Tryd.pinned (.plain (OpenSpec.upto scanMatchSpec)) scanMatchUptoCard

/-- THE SECOND FORM's CARD OF 'sordinelaw7.ScanTrees'. -/
def scanTreesUptoCard : Claim7 := { stood := { row := scanTreesUptoRow, standIns := [], harness := (true, "86208c1ffcb3d6e00c724843d3f05a63c17e3856fa3f5fd7e6c350c6b661bbf8"), looks := false }, kinds := [], alts := [], laidByText := true, laidKinds := [.data], laidTests := true, laidLooks := .later }
def ScanTreesUptoCardSaid : Prop := Claim7.holds Tryd.pinned (.plain (OpenSpec.upto scanTreesSpec)) scanTreesUptoCard

/-- THE SECOND FORM's CARD OF 'sordinelaw7.ScanPatterns'. -/
def scanPatternsUptoCard : Claim7 := { stood := { row := scanPatternsUptoRow, standIns := [], harness := (true, "86208c1ffcb3d6e00c724843d3f05a63c17e3856fa3f5fd7e6c350c6b661bbf8"), looks := false }, kinds := [], alts := [], laidByText := true, laidKinds := [.data], laidTests := true, laidLooks := .later }
def ScanPatternsUptoCardSaid : Prop := Claim7.holds Tryd.pinned (.plain (OpenSpec.upto scanPatternsSpec)) scanPatternsUptoCard

/-- THE SECOND FORM's CARD OF 'sordinelaw7.ScanWays'. -/
def scanWaysUptoCard : Claim7 := { stood := { row := scanWaysUptoRow, standIns := [], harness := (true, "86208c1ffcb3d6e00c724843d3f05a63c17e3856fa3f5fd7e6c350c6b661bbf8"), looks := false }, kinds := [], alts := [], laidByText := true, laidKinds := [.data], laidTests := true, laidLooks := .later }
def ScanWaysUptoCardSaid : Prop := Claim7.holds Tryd.pinned (.plain (OpenSpec.upto scanWaysSpec)) scanWaysUptoCard

/-- THE SECOND FORM's CARD OF 'sordinelaw7.ScanStates'. -/
def scanStatesUptoCard : Claim7 := { stood := { row := scanStatesUptoRow, standIns := [], harness := (true, "86208c1ffcb3d6e00c724843d3f05a63c17e3856fa3f5fd7e6c350c6b661bbf8"), looks := false }, kinds := [], alts := [], laidByText := true, laidKinds := [.data], laidTests := true, laidLooks := .later }
def ScanStatesUptoCardSaid : Prop := Claim7.holds Tryd.pinned (.plain (OpenSpec.upto scanStatesSpec)) scanStatesUptoCard
end Rows
end Go.Proofs.YtonfmbnankihbaaDoor
