/-
  DERIVED. GIVEN WITH THE SEED: THE CARDS: each row of YtjmojjjgifkkiaaDoorRows.lean that lists a variable, with what it lists TIED to the program's text (the seventh form; the later family's looks); each row that meets fmt, with fmt's text TOLD by the authors' own Lean function (tested against real Go, not proved from fmt's source: count such statements apart). THE CARD IS WHAT COUNTS. Prove the row's statement (the work); the ties are given (YtjmojjjgifkkiaaDoorTie.lean); close each card by the builder's one call (the guide's Derived/Test/ToyasCard.lean, 'card_holds'). Laid BY PROGRAM, IN A SANDBOX (cutbox-door.mjs). By AI agents, Wed Nov 11 2026. No macro, syntax, notation, axiom, sorry.
-/
import Derived.Test.YtjmojjjgifkkiaaDoorRows
import GoSem.ClaimSeven
namespace Go.Proofs.YtjmojjjgifkkiaaDoor
namespace Rows

/-- THE TIED CARD OF 'sordinelaw8.MatchRuns'. -/
def matchRunsCard : Claim7 := { stood := { row := matchRunsRow, standIns := [], harness := (true, "e8417c449093a42eece22af32f047716f284bdf8c0acfe141ca7a944b3dc948d"), looks := false }, kinds := [], alts := [], laidByText := true, laidKinds := [.data], laidTests := true, laidLooks := .later }
def MatchRunsCardSaid : Prop := Claim7.holds Tryd.pinned (.plain (OpenSpec.ofChange matchRunsSpec)) matchRunsCard

/-- THE TIED CARD OF 'sordinelaw8.MatchAsk'. -/
def matchAskCard : Claim7 := { stood := { row := matchAskRow, standIns := [], harness := (true, "e8417c449093a42eece22af32f047716f284bdf8c0acfe141ca7a944b3dc948d"), looks := false }, kinds := [], alts := [], laidByText := true, laidKinds := [.data], laidTests := true, laidLooks := .later }
def MatchAskCardSaid : Prop := Claim7.holds Tryd.pinned (.plain (OpenSpec.ofChange matchAskSpec)) matchAskCard

/-- THE TIED CARD OF 'sordinelaw8.MatchLists'. -/
def matchListsCard : Claim7 := { stood := { row := matchListsRow, standIns := [], harness := (true, "e8417c449093a42eece22af32f047716f284bdf8c0acfe141ca7a944b3dc948d"), looks := false }, kinds := [], alts := [], laidByText := true, laidKinds := [.data], laidTests := true, laidLooks := .later }
def MatchListsCardSaid : Prop := Claim7.holds Tryd.pinned (.plain (OpenSpec.ofChange matchListsSpec)) matchListsCard

/-- THE TIED CARD OF 'sordinelaw8.MatchDrawn'. -/
def matchDrawnCard : Claim7 := { stood := { row := matchDrawnRow, standIns := [], harness := (true, "e8417c449093a42eece22af32f047716f284bdf8c0acfe141ca7a944b3dc948d"), looks := false }, kinds := [], alts := [], laidByText := true, laidKinds := [.data], laidTests := true, laidLooks := .later }
def MatchDrawnCardSaid : Prop := Claim7.holds Tryd.pinned (.plain (OpenSpec.ofChange matchDrawnSpec)) matchDrawnCard

/-- THE TIED CARD OF 'sordinelaw8.MatchBytes'. -/
def matchBytesCard : Claim7 := { stood := { row := matchBytesRow, standIns := [], harness := (true, "e8417c449093a42eece22af32f047716f284bdf8c0acfe141ca7a944b3dc948d"), looks := false }, kinds := [], alts := [], laidByText := true, laidKinds := [.data], laidTests := true, laidLooks := .later }
def MatchBytesCardSaid : Prop := Claim7.holds Tryd.pinned (.plain (OpenSpec.ofChange matchBytesSpec)) matchBytesCard

/-- THE TIED CARD OF 'sordinelaw8.MatchBack'. -/
def matchBackCard : Claim7 := { stood := { row := matchBackRow, standIns := [], harness := (true, "e8417c449093a42eece22af32f047716f284bdf8c0acfe141ca7a944b3dc948d"), looks := false }, kinds := [], alts := [], laidByText := true, laidKinds := [.data], laidTests := true, laidLooks := .later }
def MatchBackCardSaid : Prop := Claim7.holds Tryd.pinned (.plain (OpenSpec.ofChange matchBackSpec)) matchBackCard

/-- THE TIED CARD OF 'sordinelaw8.MatchNot'. -/
def matchNotCard : Claim7 := { stood := { row := matchNotRow, standIns := [], harness := (true, "e8417c449093a42eece22af32f047716f284bdf8c0acfe141ca7a944b3dc948d"), looks := false }, kinds := [], alts := [], laidByText := true, laidKinds := [.data], laidTests := true, laidLooks := .later }
def MatchNotCardSaid : Prop := Claim7.holds Tryd.pinned (.plain (OpenSpec.ofChange matchNotSpec)) matchNotCard

/-- THE TIED CARD OF 'sordinelaw8.MatchAbsent'. -/
def matchAbsentCard : Claim7 := { stood := { row := matchAbsentRow, standIns := [], harness := (true, "e8417c449093a42eece22af32f047716f284bdf8c0acfe141ca7a944b3dc948d"), looks := false }, kinds := [], alts := [], laidByText := true, laidKinds := [.data], laidTests := true, laidLooks := .later }
def MatchAbsentCardSaid : Prop := Claim7.holds Tryd.pinned (.plain (OpenSpec.ofChange matchAbsentSpec)) matchAbsentCard

/-- THE SECOND FORM's CARD OF 'sordinelaw8.MatchRuns'. -/
def matchRunsUptoCard : Claim7 := { stood := { row := matchRunsUptoRow, standIns := [], harness := (true, "e8417c449093a42eece22af32f047716f284bdf8c0acfe141ca7a944b3dc948d"), looks := false }, kinds := [], alts := [], laidByText := true, laidKinds := [.data], laidTests := true, laidLooks := .later }
def MatchRunsUptoCardSaid : Prop := Claim7.holds Tryd.pinned (.plain (OpenSpec.upto matchRunsSpec)) matchRunsUptoCard

/-- THE SECOND FORM's CARD OF 'sordinelaw8.MatchAsk'. -/
def matchAskUptoCard : Claim7 := { stood := { row := matchAskUptoRow, standIns := [], harness := (true, "e8417c449093a42eece22af32f047716f284bdf8c0acfe141ca7a944b3dc948d"), looks := false }, kinds := [], alts := [], laidByText := true, laidKinds := [.data], laidTests := true, laidLooks := .later }
def MatchAskUptoCardSaid : Prop := Claim7.holds Tryd.pinned (.plain (OpenSpec.upto matchAskSpec)) matchAskUptoCard

/-- THE SECOND FORM's CARD OF 'sordinelaw8.MatchLists'. -/
def matchListsUptoCard : Claim7 := { stood := { row := matchListsUptoRow, standIns := [], harness := (true, "e8417c449093a42eece22af32f047716f284bdf8c0acfe141ca7a944b3dc948d"), looks := false }, kinds := [], alts := [], laidByText := true, laidKinds := [.data], laidTests := true, laidLooks := .later }
def MatchListsUptoCardSaid : Prop := Claim7.holds Tryd.pinned (.plain (OpenSpec.upto matchListsSpec)) matchListsUptoCard

/-- THE SECOND FORM's CARD OF 'sordinelaw8.MatchDrawn'. -/
def matchDrawnUptoCard : Claim7 := { stood := { row := matchDrawnUptoRow, standIns := [], harness := (true, "e8417c449093a42eece22af32f047716f284bdf8c0acfe141ca7a944b3dc948d"), looks := false }, kinds := [], alts := [], laidByText := true, laidKinds := [.data], laidTests := true, laidLooks := .later }
def MatchDrawnUptoCardSaid : Prop := Claim7.holds Tryd.pinned (.plain (OpenSpec.upto matchDrawnSpec)) matchDrawnUptoCard

/-- THE SECOND FORM's CARD OF 'sordinelaw8.MatchBytes'. -/
def matchBytesUptoCard : Claim7 := { stood := { row := matchBytesUptoRow, standIns := [], harness := (true, "e8417c449093a42eece22af32f047716f284bdf8c0acfe141ca7a944b3dc948d"), looks := false }, kinds := [], alts := [], laidByText := true, laidKinds := [.data], laidTests := true, laidLooks := .later }
def MatchBytesUptoCardSaid : Prop := Claim7.holds Tryd.pinned (.plain (OpenSpec.upto matchBytesSpec)) matchBytesUptoCard

/-- THE SECOND FORM's CARD OF 'sordinelaw8.MatchBack'. -/
def matchBackUptoCard : Claim7 := { stood := { row := matchBackUptoRow, standIns := [], harness := (true, "e8417c449093a42eece22af32f047716f284bdf8c0acfe141ca7a944b3dc948d"), looks := false }, kinds := [], alts := [], laidByText := true, laidKinds := [.data], laidTests := true, laidLooks := .later }
def MatchBackUptoCardSaid : Prop := Claim7.holds Tryd.pinned (.plain (OpenSpec.upto matchBackSpec)) matchBackUptoCard

/-- THE SECOND FORM's CARD OF 'sordinelaw8.MatchNot'. -/
def matchNotUptoCard : Claim7 := { stood := { row := matchNotUptoRow, standIns := [], harness := (true, "e8417c449093a42eece22af32f047716f284bdf8c0acfe141ca7a944b3dc948d"), looks := false }, kinds := [], alts := [], laidByText := true, laidKinds := [.data], laidTests := true, laidLooks := .later }
def MatchNotUptoCardSaid : Prop := Claim7.holds Tryd.pinned (.plain (OpenSpec.upto matchNotSpec)) matchNotUptoCard

/-- THE SECOND FORM's CARD OF 'sordinelaw8.MatchAbsent'. -/
def matchAbsentUptoCard : Claim7 := { stood := { row := matchAbsentUptoRow, standIns := [], harness := (true, "e8417c449093a42eece22af32f047716f284bdf8c0acfe141ca7a944b3dc948d"), looks := false }, kinds := [], alts := [], laidByText := true, laidKinds := [.data], laidTests := true, laidLooks := .later }
def MatchAbsentUptoCardSaid : Prop := Claim7.holds Tryd.pinned (.plain (OpenSpec.upto matchAbsentSpec)) matchAbsentUptoCard
end Rows
end Go.Proofs.YtjmojjjgifkkiaaDoor
