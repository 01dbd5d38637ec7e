/-
  DERIVED. GIVEN WITH THE SEED: THE CARDS: each row of YtmdpeifpgnkbiaaDoorRows.lean that lists a variable, with what it lists TIED to the program's text (the seventh form; the later family's looks); each row that meets fmt, with fmt's text TOLD by the authors' own Lean function (tested against real Go, not proved from fmt's source: count such statements apart). THE CARD IS WHAT COUNTS. Prove the row's statement (the work); the ties are given (YtmdpeifpgnkbiaaDoorTie.lean); close each card by the builder's one call (the guide's Derived/Test/ToyasCard.lean, 'card_holds'). Laid BY PROGRAM, IN A SANDBOX (cutbox-door.mjs). By AI agents, Wed Nov 11 2026. No macro, syntax, notation, axiom, sorry.
-/
import Derived.Test.YtmdpeifpgnkbiaaDoorRows
import GoSem.ClaimSeven
namespace Go.Proofs.YtmdpeifpgnkbiaaDoor
namespace Rows

/-- THE TIED CARD OF 'sordinelaw3.RealRuns'. -/
def realRunsCard : Claim7 := { stood := { row := realRunsRow, standIns := [], harness := (true, "30ed808576271fdcfd0cbc67018d2f3b460aab1f3158461c18025748a0a206f0"), looks := false }, kinds := [], alts := [], laidByText := true, laidKinds := [.data], laidTests := true, laidLooks := .later }
def RealRunsCardSaid : Prop := Claim7.holds Tryd.pinned (.plain (OpenSpec.ofChange realRunsSpec)) realRunsCard

/-- THE TIED CARD OF 'sordinelaw3.RealBits'. -/
def realBitsCard : Claim7 := { stood := { row := realBitsRow, standIns := [], harness := (true, "30ed808576271fdcfd0cbc67018d2f3b460aab1f3158461c18025748a0a206f0"), looks := false }, kinds := [], alts := [], laidByText := true, laidKinds := [.data], laidTests := true, laidLooks := .later }
def RealBitsCardSaid : Prop := Claim7.holds Tryd.pinned (.plain (OpenSpec.ofChange realBitsSpec)) realBitsCard

/-- THE TIED CARD OF 'sordinelaw3.RealOrder'. -/
def realOrderCard : Claim7 := { stood := { row := realOrderRow, standIns := [], harness := (true, "30ed808576271fdcfd0cbc67018d2f3b460aab1f3158461c18025748a0a206f0"), looks := false }, kinds := [], alts := [], laidByText := true, laidKinds := [.data], laidTests := true, laidLooks := .later }
def RealOrderCardSaid : Prop := Claim7.holds Tryd.pinned (.plain (OpenSpec.ofChange realOrderSpec)) realOrderCard

/-- THE TIED CARD OF 'sordinelaw3.RealLine'. -/
def realLineCard : Claim7 := { stood := { row := realLineRow, standIns := [], harness := (true, "30ed808576271fdcfd0cbc67018d2f3b460aab1f3158461c18025748a0a206f0"), looks := false }, kinds := [], alts := [], laidByText := true, laidKinds := [.data], laidTests := true, laidLooks := .later }
def RealLineCardSaid : Prop := Claim7.holds Tryd.pinned (.plain (OpenSpec.ofChange realLineSpec)) realLineCard

/-- THE TIED CARD OF 'sordinelaw3.RealBands'. -/
def realBandsCard : Claim7 := { stood := { row := realBandsRow, standIns := [], harness := (true, "30ed808576271fdcfd0cbc67018d2f3b460aab1f3158461c18025748a0a206f0"), looks := false }, kinds := [], alts := [], laidByText := true, laidKinds := [.data], laidTests := true, laidLooks := .later }
def RealBandsCardSaid : Prop := Claim7.holds Tryd.pinned (.plain (OpenSpec.ofChange realBandsSpec)) realBandsCard

/-- THE TIED CARD OF 'sordinelaw3.RealWithin'. -/
def realWithinCard : Claim7 := { stood := { row := realWithinRow, standIns := [], harness := (true, "30ed808576271fdcfd0cbc67018d2f3b460aab1f3158461c18025748a0a206f0"), looks := false }, kinds := [], alts := [], laidByText := true, laidKinds := [.data], laidTests := true, laidLooks := .later }
def RealWithinCardSaid : Prop := Claim7.holds Tryd.pinned (.plain (OpenSpec.ofChange realWithinSpec)) realWithinCard

/-- THE TIED CARD OF 'sordinelaw3.RealExtremes'. -/
def realExtremesCard : Claim7 := { stood := { row := realExtremesRow, standIns := [], harness := (true, "30ed808576271fdcfd0cbc67018d2f3b460aab1f3158461c18025748a0a206f0"), looks := false }, kinds := [], alts := [], laidByText := true, laidKinds := [.data], laidTests := true, laidLooks := .later }
def RealExtremesCardSaid : Prop := Claim7.holds Tryd.pinned (.plain (OpenSpec.ofChange realExtremesSpec)) realExtremesCard

/-- THE TIED CARD OF 'sordinelaw3.RealRank'. -/
def realRankCard : Claim7 := { stood := { row := realRankRow, standIns := [], harness := (true, "30ed808576271fdcfd0cbc67018d2f3b460aab1f3158461c18025748a0a206f0"), looks := false }, kinds := [], alts := [], laidByText := true, laidKinds := [.data], laidTests := true, laidLooks := .later }
def RealRankCardSaid : Prop := Claim7.holds Tryd.pinned (.plain (OpenSpec.ofChange realRankSpec)) realRankCard

/-- THE TIED CARD OF 'sordinelaw3.RealFalls'. -/
def realFallsCard : Claim7 := { stood := { row := realFallsRow, standIns := [], harness := (true, "30ed808576271fdcfd0cbc67018d2f3b460aab1f3158461c18025748a0a206f0"), looks := false }, kinds := [], alts := [], laidByText := true, laidKinds := [.data], laidTests := true, laidLooks := .later }
def RealFallsCardSaid : Prop := Claim7.holds Tryd.pinned (.plain (OpenSpec.ofChange realFallsSpec)) realFallsCard

/-- THE TIED CARD OF 'sordinelaw3.RealTexts'. -/
def realTextsCard : Claim7 := { stood := { row := realTextsRow, standIns := [], harness := (true, "30ed808576271fdcfd0cbc67018d2f3b460aab1f3158461c18025748a0a206f0"), looks := false }, kinds := [], alts := [], laidByText := true, laidKinds := [.data], laidTests := true, laidLooks := .later }
def RealTextsCardSaid : Prop := Claim7.holds Tryd.pinned (.plain (OpenSpec.ofChange realTextsSpec)) realTextsCard

/-- THE SECOND FORM's CARD OF 'sordinelaw3.RealRuns'. -/
def realRunsUptoCard : Claim7 := { stood := { row := realRunsUptoRow, standIns := [], harness := (true, "30ed808576271fdcfd0cbc67018d2f3b460aab1f3158461c18025748a0a206f0"), looks := false }, kinds := [], alts := [], laidByText := true, laidKinds := [.data], laidTests := true, laidLooks := .later }
def RealRunsUptoCardSaid : Prop := Claim7.holds Tryd.pinned (.plain (OpenSpec.upto realRunsSpec)) realRunsUptoCard

/-- THE SECOND FORM's CARD OF 'sordinelaw3.RealBits'. -/
def realBitsUptoCard : Claim7 := { stood := { row := realBitsUptoRow, standIns := [], harness := (true, "30ed808576271fdcfd0cbc67018d2f3b460aab1f3158461c18025748a0a206f0"), looks := false }, kinds := [], alts := [], laidByText := true, laidKinds := [.data], laidTests := true, laidLooks := .later }
def RealBitsUptoCardSaid : Prop := Claim7.holds Tryd.pinned (.plain (OpenSpec.upto realBitsSpec)) realBitsUptoCard

/-- THE SECOND FORM's CARD OF 'sordinelaw3.RealOrder'. -/
def realOrderUptoCard : Claim7 := { stood := { row := realOrderUptoRow, standIns := [], harness := (true, "30ed808576271fdcfd0cbc67018d2f3b460aab1f3158461c18025748a0a206f0"), looks := false }, kinds := [], alts := [], laidByText := true, laidKinds := [.data], laidTests := true, laidLooks := .later }
def RealOrderUptoCardSaid : Prop := Claim7.holds Tryd.pinned (.plain (OpenSpec.upto realOrderSpec)) realOrderUptoCard

/-- THE SECOND FORM's CARD OF 'sordinelaw3.RealLine'. -/
def realLineUptoCard : Claim7 := { stood := { row := realLineUptoRow, standIns := [], harness := (true, "30ed808576271fdcfd0cbc67018d2f3b460aab1f3158461c18025748a0a206f0"), looks := false }, kinds := [], alts := [], laidByText := true, laidKinds := [.data], laidTests := true, laidLooks := .later }
def RealLineUptoCardSaid : Prop := Claim7.holds Tryd.pinned (.plain (OpenSpec.upto realLineSpec)) realLineUptoCard

/-- THE SECOND FORM's CARD OF 'sordinelaw3.RealBands'. -/
def realBandsUptoCard : Claim7 := { stood := { row := realBandsUptoRow, standIns := [], harness := (true, "30ed808576271fdcfd0cbc67018d2f3b460aab1f3158461c18025748a0a206f0"), looks := false }, kinds := [], alts := [], laidByText := true, laidKinds := [.data], laidTests := true, laidLooks := .later }
def RealBandsUptoCardSaid : Prop := Claim7.holds Tryd.pinned (.plain (OpenSpec.upto realBandsSpec)) realBandsUptoCard

/-- THE SECOND FORM's CARD OF 'sordinelaw3.RealWithin'. -/
def realWithinUptoCard : Claim7 := { stood := { row := realWithinUptoRow, standIns := [], harness := (true, "30ed808576271fdcfd0cbc67018d2f3b460aab1f3158461c18025748a0a206f0"), looks := false }, kinds := [], alts := [], laidByText := true, laidKinds := [.data], laidTests := true, laidLooks := .later }
def RealWithinUptoCardSaid : Prop := Claim7.holds Tryd.pinned (.plain (OpenSpec.upto realWithinSpec)) realWithinUptoCard

/-- THE SECOND FORM's CARD OF 'sordinelaw3.RealExtremes'. -/
def realExtremesUptoCard : Claim7 := { stood := { row := realExtremesUptoRow, standIns := [], harness := (true, "30ed808576271fdcfd0cbc67018d2f3b460aab1f3158461c18025748a0a206f0"), looks := false }, kinds := [], alts := [], laidByText := true, laidKinds := [.data], laidTests := true, laidLooks := .later }
def RealExtremesUptoCardSaid : Prop := Claim7.holds Tryd.pinned (.plain (OpenSpec.upto realExtremesSpec)) realExtremesUptoCard

/-- THE SECOND FORM's CARD OF 'sordinelaw3.RealRank'. -/
def realRankUptoCard : Claim7 := { stood := { row := realRankUptoRow, standIns := [], harness := (true, "30ed808576271fdcfd0cbc67018d2f3b460aab1f3158461c18025748a0a206f0"), looks := false }, kinds := [], alts := [], laidByText := true, laidKinds := [.data], laidTests := true, laidLooks := .later }
def RealRankUptoCardSaid : Prop := Claim7.holds Tryd.pinned (.plain (OpenSpec.upto realRankSpec)) realRankUptoCard

/-- THE SECOND FORM's CARD OF 'sordinelaw3.RealFalls'. -/
def realFallsUptoCard : Claim7 := { stood := { row := realFallsUptoRow, standIns := [], harness := (true, "30ed808576271fdcfd0cbc67018d2f3b460aab1f3158461c18025748a0a206f0"), looks := false }, kinds := [], alts := [], laidByText := true, laidKinds := [.data], laidTests := true, laidLooks := .later }
def RealFallsUptoCardSaid : Prop := Claim7.holds Tryd.pinned (.plain (OpenSpec.upto realFallsSpec)) realFallsUptoCard

/-- THE SECOND FORM's CARD OF 'sordinelaw3.RealTexts'. -/
def realTextsUptoCard : Claim7 := { stood := { row := realTextsUptoRow, standIns := [], harness := (true, "30ed808576271fdcfd0cbc67018d2f3b460aab1f3158461c18025748a0a206f0"), looks := false }, kinds := [], alts := [], laidByText := true, laidKinds := [.data], laidTests := true, laidLooks := .later }
def RealTextsUptoCardSaid : Prop := Claim7.holds Tryd.pinned (.plain (OpenSpec.upto realTextsSpec)) realTextsUptoCard
end Rows
end Go.Proofs.YtmdpeifpgnkbiaaDoor
