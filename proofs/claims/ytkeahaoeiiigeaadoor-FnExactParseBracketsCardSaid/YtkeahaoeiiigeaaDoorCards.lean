/-
  DERIVED. GIVEN WITH THE SEED: THE CARDS: each row of YtkeahaoeiiigeaaDoorRows.lean that lists a variable, with what it lists TIED to the program's text (the seventh form; the later family's looks); each row that meets fmt, with fmt's text TOLD by the authors' own Lean function (tested against real Go, not proved from fmt's source: count such statements apart). THE CARD IS WHAT COUNTS. Prove the row's statement (the work); the ties are given (YtkeahaoeiiigeaaDoorTie.lean); close each card by the builder's one call (the guide's Derived/Test/ToyasCard.lean, 'card_holds'). Laid BY PROGRAM, IN A SANDBOX (cutbox-door.mjs). By AI agents, Wed Nov 11 2026. No macro, syntax, notation, axiom, sorry.
-/
import Derived.Test.YtkeahaoeiiigeaaDoorRows
import GoSem.ClaimSeven
namespace Go.Proofs.YtkeahaoeiiigeaaDoor
namespace Rows

/-- THE TIED CARD OF 'laws.FnExactIsBinary'. -/
def fnExactIsBinaryCard : Claim7 := { stood := { row := fnExactIsBinaryRow, standIns := [], harness := (true, "37b760a3d0c00f40a20c9f694aaef3e53d7b18de7fa51474fcffb3d8f4fb9302"), looks := true }, kinds := [], alts := [], laidByText := true, laidKinds := [.sentinel], laidTests := true, laidLooks := .later }
def FnExactIsBinaryCardSaid : Prop := Claim7.holds Tryd.pinned (.plain (OpenSpec.ofChange fnExactIsBinarySpec)) fnExactIsBinaryCard

/-- THE TIED CARD OF 'laws.FnExactSidesOf'. -/
def fnExactSidesOfCard : Claim7 := { stood := { row := fnExactSidesOfRow, standIns := [], harness := (true, "37b760a3d0c00f40a20c9f694aaef3e53d7b18de7fa51474fcffb3d8f4fb9302"), looks := true }, kinds := [], alts := [], laidByText := true, laidKinds := [.sentinel], laidTests := true, laidLooks := .later }
def FnExactSidesOfCardSaid : Prop := Claim7.holds Tryd.pinned (.plain (OpenSpec.ofChange fnExactSidesOfSpec)) fnExactSidesOfCard

/-- THE TIED CARD OF 'laws.FnExactJoinSides'. -/
def fnExactJoinSidesCard : Claim7 := { stood := { row := fnExactJoinSidesRow, standIns := [], harness := (true, "37b760a3d0c00f40a20c9f694aaef3e53d7b18de7fa51474fcffb3d8f4fb9302"), looks := true }, kinds := [], alts := [], laidByText := true, laidKinds := [.sentinel], laidTests := true, laidLooks := .later }
def FnExactJoinSidesCardSaid : Prop := Claim7.holds Tryd.pinned (.plain (OpenSpec.ofChange fnExactJoinSidesSpec)) fnExactJoinSidesCard

/-- THE TIED CARD OF 'laws.FnExactMirrorBinary'. -/
def fnExactMirrorBinaryCard : Claim7 := { stood := { row := fnExactMirrorBinaryRow, standIns := [], harness := (true, "37b760a3d0c00f40a20c9f694aaef3e53d7b18de7fa51474fcffb3d8f4fb9302"), looks := true }, kinds := [], alts := [], laidByText := true, laidKinds := [.sentinel], laidTests := true, laidLooks := .later }
def FnExactMirrorBinaryCardSaid : Prop := Claim7.holds Tryd.pinned (.plain (OpenSpec.ofChange fnExactMirrorBinarySpec)) fnExactMirrorBinaryCard

/-- THE TIED CARD OF 'laws.FnExactInnerOrder'. -/
def fnExactInnerOrderCard : Claim7 := { stood := { row := fnExactInnerOrderRow, standIns := [], harness := (true, "37b760a3d0c00f40a20c9f694aaef3e53d7b18de7fa51474fcffb3d8f4fb9302"), looks := true }, kinds := [], alts := [], laidByText := true, laidKinds := [.sentinel], laidTests := true, laidLooks := .later }
def FnExactInnerOrderCardSaid : Prop := Claim7.holds Tryd.pinned (.plain (OpenSpec.ofChange fnExactInnerOrderSpec)) fnExactInnerOrderCard

/-- THE TIED CARD OF 'laws.FnExactRotateRight'. -/
def fnExactRotateRightCard : Claim7 := { stood := { row := fnExactRotateRightRow, standIns := [], harness := (true, "37b760a3d0c00f40a20c9f694aaef3e53d7b18de7fa51474fcffb3d8f4fb9302"), looks := true }, kinds := [], alts := [], laidByText := true, laidKinds := [.sentinel], laidTests := true, laidLooks := .later }
def FnExactRotateRightCardSaid : Prop := Claim7.holds Tryd.pinned (.plain (OpenSpec.ofChange fnExactRotateRightSpec)) fnExactRotateRightCard

/-- THE TIED CARD OF 'laws.FnExactRotateLeft'. -/
def fnExactRotateLeftCard : Claim7 := { stood := { row := fnExactRotateLeftRow, standIns := [], harness := (true, "37b760a3d0c00f40a20c9f694aaef3e53d7b18de7fa51474fcffb3d8f4fb9302"), looks := true }, kinds := [], alts := [], laidByText := true, laidKinds := [.sentinel], laidTests := true, laidLooks := .later }
def FnExactRotateLeftCardSaid : Prop := Claim7.holds Tryd.pinned (.plain (OpenSpec.ofChange fnExactRotateLeftSpec)) fnExactRotateLeftCard

/-- THE TIED CARD OF 'laws.FnExactVectorOf'. -/
def fnExactVectorOfCard : Claim7 := { stood := { row := fnExactVectorOfRow, standIns := [], harness := (true, "37b760a3d0c00f40a20c9f694aaef3e53d7b18de7fa51474fcffb3d8f4fb9302"), looks := true }, kinds := [], alts := [], laidByText := true, laidKinds := [.sentinel], laidTests := true, laidLooks := .later }
def FnExactVectorOfCardSaid : Prop := Claim7.holds Tryd.pinned (.plain (OpenSpec.ofChange fnExactVectorOfSpec)) fnExactVectorOfCard

/-- THE TIED CARD OF 'laws.FnExactBinaryOfVector'. -/
def fnExactBinaryOfVectorCard : Claim7 := { stood := { row := fnExactBinaryOfVectorRow, standIns := [], harness := (true, "37b760a3d0c00f40a20c9f694aaef3e53d7b18de7fa51474fcffb3d8f4fb9302"), looks := true }, kinds := [], alts := [], laidByText := true, laidKinds := [.sentinel], laidTests := true, laidLooks := .later }
def FnExactBinaryOfVectorCardSaid : Prop := Claim7.holds Tryd.pinned (.plain (OpenSpec.ofChange fnExactBinaryOfVectorSpec)) fnExactBinaryOfVectorCard

/-- THE TIED CARD OF 'laws.FnExactIsAtMost'. -/
def fnExactIsAtMostCard : Claim7 := { stood := { row := fnExactIsAtMostRow, standIns := [], harness := (true, "37b760a3d0c00f40a20c9f694aaef3e53d7b18de7fa51474fcffb3d8f4fb9302"), looks := true }, kinds := [], alts := [], laidByText := true, laidKinds := [.sentinel], laidTests := true, laidLooks := .later }
def FnExactIsAtMostCardSaid : Prop := Claim7.holds Tryd.pinned (.plain (OpenSpec.ofChange fnExactIsAtMostSpec)) fnExactIsAtMostCard

/-- THE TIED CARD OF 'laws.FnExactMeetOfBinary'. -/
def fnExactMeetOfBinaryCard : Claim7 := { stood := { row := fnExactMeetOfBinaryRow, standIns := [], harness := (true, "37b760a3d0c00f40a20c9f694aaef3e53d7b18de7fa51474fcffb3d8f4fb9302"), looks := true }, kinds := [], alts := [], laidByText := true, laidKinds := [.sentinel, .sentinel], laidTests := true, laidLooks := .later }
def FnExactMeetOfBinaryCardSaid : Prop := Claim7.holds Tryd.pinned (.plain (OpenSpec.ofChange fnExactMeetOfBinarySpec)) fnExactMeetOfBinaryCard

/-- THE TIED CARD OF 'laws.FnExactBracketsOf'. -/
def fnExactBracketsOfCard : Claim7 := { stood := { row := fnExactBracketsOfRow, standIns := [], harness := (true, "37b760a3d0c00f40a20c9f694aaef3e53d7b18de7fa51474fcffb3d8f4fb9302"), looks := true }, kinds := [], alts := [], laidByText := true, laidKinds := [.sentinel], laidTests := true, laidLooks := .later }
def FnExactBracketsOfCardSaid : Prop := Claim7.holds Tryd.pinned (.plain (OpenSpec.ofChange fnExactBracketsOfSpec)) fnExactBracketsOfCard

/-- THE TIED CARD OF 'laws.FnExactParseBrackets'. -/
def fnExactParseBracketsCard : Claim7 := { stood := { row := fnExactParseBracketsRow, standIns := [], harness := (true, "37b760a3d0c00f40a20c9f694aaef3e53d7b18de7fa51474fcffb3d8f4fb9302"), looks := true }, kinds := [], alts := [], laidByText := true, laidKinds := [.data, .sentinel, .pinned], laidTests := true, laidLooks := .later }
def FnExactParseBracketsCardSaid : Prop := Claim7.holds Tryd.pinned (.plain (OpenSpec.ofChange fnExactParseBracketsSpec)) fnExactParseBracketsCard

/-- THE SECOND FORM's CARD OF 'laws.FnExactIsBinary'. -/
def fnExactIsBinaryUptoCard : Claim7 := { stood := { row := fnExactIsBinaryUptoRow, standIns := [], harness := (true, "37b760a3d0c00f40a20c9f694aaef3e53d7b18de7fa51474fcffb3d8f4fb9302"), looks := true }, kinds := [], alts := [], laidByText := true, laidKinds := [.sentinel], laidTests := true, laidLooks := .later }
def FnExactIsBinaryUptoCardSaid : Prop := Claim7.holds Tryd.pinned (.plain (OpenSpec.upto fnExactIsBinarySpec)) fnExactIsBinaryUptoCard

/-- THE SECOND FORM's CARD OF 'laws.FnExactSidesOf'. -/
def fnExactSidesOfUptoCard : Claim7 := { stood := { row := fnExactSidesOfUptoRow, standIns := [], harness := (true, "37b760a3d0c00f40a20c9f694aaef3e53d7b18de7fa51474fcffb3d8f4fb9302"), looks := true }, kinds := [], alts := [], laidByText := true, laidKinds := [.sentinel], laidTests := true, laidLooks := .later }
def FnExactSidesOfUptoCardSaid : Prop := Claim7.holds Tryd.pinned (.plain (OpenSpec.upto fnExactSidesOfSpec)) fnExactSidesOfUptoCard

/-- THE SECOND FORM's CARD OF 'laws.FnExactJoinSides'. -/
def fnExactJoinSidesUptoCard : Claim7 := { stood := { row := fnExactJoinSidesUptoRow, standIns := [], harness := (true, "37b760a3d0c00f40a20c9f694aaef3e53d7b18de7fa51474fcffb3d8f4fb9302"), looks := true }, kinds := [], alts := [], laidByText := true, laidKinds := [.sentinel], laidTests := true, laidLooks := .later }
def FnExactJoinSidesUptoCardSaid : Prop := Claim7.holds Tryd.pinned (.plain (OpenSpec.upto fnExactJoinSidesSpec)) fnExactJoinSidesUptoCard

/-- THE SECOND FORM's CARD OF 'laws.FnExactMirrorBinary'. -/
def fnExactMirrorBinaryUptoCard : Claim7 := { stood := { row := fnExactMirrorBinaryUptoRow, standIns := [], harness := (true, "37b760a3d0c00f40a20c9f694aaef3e53d7b18de7fa51474fcffb3d8f4fb9302"), looks := true }, kinds := [], alts := [], laidByText := true, laidKinds := [.sentinel], laidTests := true, laidLooks := .later }
def FnExactMirrorBinaryUptoCardSaid : Prop := Claim7.holds Tryd.pinned (.plain (OpenSpec.upto fnExactMirrorBinarySpec)) fnExactMirrorBinaryUptoCard

/-- THE SECOND FORM's CARD OF 'laws.FnExactInnerOrder'. -/
def fnExactInnerOrderUptoCard : Claim7 := { stood := { row := fnExactInnerOrderUptoRow, standIns := [], harness := (true, "37b760a3d0c00f40a20c9f694aaef3e53d7b18de7fa51474fcffb3d8f4fb9302"), looks := true }, kinds := [], alts := [], laidByText := true, laidKinds := [.sentinel], laidTests := true, laidLooks := .later }
def FnExactInnerOrderUptoCardSaid : Prop := Claim7.holds Tryd.pinned (.plain (OpenSpec.upto fnExactInnerOrderSpec)) fnExactInnerOrderUptoCard

/-- THE SECOND FORM's CARD OF 'laws.FnExactRotateRight'. -/
def fnExactRotateRightUptoCard : Claim7 := { stood := { row := fnExactRotateRightUptoRow, standIns := [], harness := (true, "37b760a3d0c00f40a20c9f694aaef3e53d7b18de7fa51474fcffb3d8f4fb9302"), looks := true }, kinds := [], alts := [], laidByText := true, laidKinds := [.sentinel], laidTests := true, laidLooks := .later }
def FnExactRotateRightUptoCardSaid : Prop := Claim7.holds Tryd.pinned (.plain (OpenSpec.upto fnExactRotateRightSpec)) fnExactRotateRightUptoCard

/-- THE SECOND FORM's CARD OF 'laws.FnExactRotateLeft'. -/
def fnExactRotateLeftUptoCard : Claim7 := { stood := { row := fnExactRotateLeftUptoRow, standIns := [], harness := (true, "37b760a3d0c00f40a20c9f694aaef3e53d7b18de7fa51474fcffb3d8f4fb9302"), looks := true }, kinds := [], alts := [], laidByText := true, laidKinds := [.sentinel], laidTests := true, laidLooks := .later }
def FnExactRotateLeftUptoCardSaid : Prop := Claim7.holds Tryd.pinned (.plain (OpenSpec.upto fnExactRotateLeftSpec)) fnExactRotateLeftUptoCard

/-- THE SECOND FORM's CARD OF 'laws.FnExactVectorOf'. -/
def fnExactVectorOfUptoCard : Claim7 := { stood := { row := fnExactVectorOfUptoRow, standIns := [], harness := (true, "37b760a3d0c00f40a20c9f694aaef3e53d7b18de7fa51474fcffb3d8f4fb9302"), looks := true }, kinds := [], alts := [], laidByText := true, laidKinds := [.sentinel], laidTests := true, laidLooks := .later }
def FnExactVectorOfUptoCardSaid : Prop := Claim7.holds Tryd.pinned (.plain (OpenSpec.upto fnExactVectorOfSpec)) fnExactVectorOfUptoCard

/-- THE SECOND FORM's CARD OF 'laws.FnExactBinaryOfVector'. -/
def fnExactBinaryOfVectorUptoCard : Claim7 := { stood := { row := fnExactBinaryOfVectorUptoRow, standIns := [], harness := (true, "37b760a3d0c00f40a20c9f694aaef3e53d7b18de7fa51474fcffb3d8f4fb9302"), looks := true }, kinds := [], alts := [], laidByText := true, laidKinds := [.sentinel], laidTests := true, laidLooks := .later }
def FnExactBinaryOfVectorUptoCardSaid : Prop := Claim7.holds Tryd.pinned (.plain (OpenSpec.upto fnExactBinaryOfVectorSpec)) fnExactBinaryOfVectorUptoCard

/-- THE SECOND FORM's CARD OF 'laws.FnExactIsAtMost'. -/
def fnExactIsAtMostUptoCard : Claim7 := { stood := { row := fnExactIsAtMostUptoRow, standIns := [], harness := (true, "37b760a3d0c00f40a20c9f694aaef3e53d7b18de7fa51474fcffb3d8f4fb9302"), looks := true }, kinds := [], alts := [], laidByText := true, laidKinds := [.sentinel], laidTests := true, laidLooks := .later }
def FnExactIsAtMostUptoCardSaid : Prop := Claim7.holds Tryd.pinned (.plain (OpenSpec.upto fnExactIsAtMostSpec)) fnExactIsAtMostUptoCard

/-- THE SECOND FORM's CARD OF 'laws.FnExactMeetOfBinary'. -/
def fnExactMeetOfBinaryUptoCard : Claim7 := { stood := { row := fnExactMeetOfBinaryUptoRow, standIns := [], harness := (true, "37b760a3d0c00f40a20c9f694aaef3e53d7b18de7fa51474fcffb3d8f4fb9302"), looks := true }, kinds := [], alts := [], laidByText := true, laidKinds := [.sentinel, .sentinel], laidTests := true, laidLooks := .later }
def FnExactMeetOfBinaryUptoCardSaid : Prop := Claim7.holds Tryd.pinned (.plain (OpenSpec.upto fnExactMeetOfBinarySpec)) fnExactMeetOfBinaryUptoCard

/-- THE SECOND FORM's CARD OF 'laws.FnExactBracketsOf'. -/
def fnExactBracketsOfUptoCard : Claim7 := { stood := { row := fnExactBracketsOfUptoRow, standIns := [], harness := (true, "37b760a3d0c00f40a20c9f694aaef3e53d7b18de7fa51474fcffb3d8f4fb9302"), looks := true }, kinds := [], alts := [], laidByText := true, laidKinds := [.sentinel], laidTests := true, laidLooks := .later }
def FnExactBracketsOfUptoCardSaid : Prop := Claim7.holds Tryd.pinned (.plain (OpenSpec.upto fnExactBracketsOfSpec)) fnExactBracketsOfUptoCard

/-- THE SECOND FORM's CARD OF 'laws.FnExactParseBrackets'. -/
def fnExactParseBracketsUptoCard : Claim7 := { stood := { row := fnExactParseBracketsUptoRow, standIns := [], harness := (true, "37b760a3d0c00f40a20c9f694aaef3e53d7b18de7fa51474fcffb3d8f4fb9302"), looks := true }, kinds := [], alts := [], laidByText := true, laidKinds := [.data, .sentinel, .pinned], laidTests := true, laidLooks := .later }
def FnExactParseBracketsUptoCardSaid : Prop := Claim7.holds Tryd.pinned (.plain (OpenSpec.upto fnExactParseBracketsSpec)) fnExactParseBracketsUptoCard
end Rows
end Go.Proofs.YtkeahaoeiiigeaaDoor
