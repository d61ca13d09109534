/-
  DERIVED. GIVEN WITH THE SEED: THE CARDS: each row of YtjjmnoiiihcoiaaGreatDoorRows.lean that lists a variable, with what it lists TIED to the program's text (the seventh form; the later family's looks); each row that meets fmt, with fmt's text TOLD by the authors' own Lean function (tested against real Go, not proved from fmt's source: count such statements apart). THE CARD IS WHAT COUNTS. Prove the row's statement (the work); the ties are given (YtjjmnoiiihcoiaaGreatDoorTie.lean); close each card by the builder's one call (the guide's Derived/Test/ToyasCard.lean, 'card_holds'). Laid BY PROGRAM, IN A SANDBOX (cutbox-door.mjs). By AI agents, Wed Nov 11 2026. No macro, syntax, notation, axiom, sorry.
-/
import Derived.Test.YtjjmnoiiihcoiaaGreatDoorRows
import GoSem.ClaimSeven
namespace Go.Proofs.YtjjmnoiiihcoiaaGreatDoor
namespace Rows

/-- THE TIED CARD OF 'earmarklaw04.FellDays'. -/
def fellDaysCard : Claim7 := { stood := { row := fellDaysRow, standIns := [], harness := (true, "48be798ff9b1b8bcc8241c5b4d70f0951b1ef6458c409a57f849d83dbb13ad02"), looks := true }, kinds := [], alts := [], laidByText := true, laidKinds := [.data, .data, .data, .data, .sentinel, .sentinel, .pinned], laidTests := true, laidLooks := .later }
def FellDaysCardSaid : Prop := Claim7.holds Tryz.pinned (.plain (OpenSpec.ofChange fellDaysSpec)) fellDaysCard

/-- THE TIED CARD OF 'earmarklaw04.FellParts'. -/
def fellPartsCard : Claim7 := { stood := { row := fellPartsRow, standIns := [], harness := (true, "48be798ff9b1b8bcc8241c5b4d70f0951b1ef6458c409a57f849d83dbb13ad02"), looks := true }, kinds := [], alts := [], laidByText := true, laidKinds := [.data, .data, .data, .data, .sentinel, .sentinel, .pinned], laidTests := true, laidLooks := .later }
def FellPartsCardSaid : Prop := Claim7.holds Tryz.pinned (.plain (OpenSpec.ofChange fellPartsSpec)) fellPartsCard

/-- THE TIED CARD OF 'earmarklaw04.FellReaches'. -/
def fellReachesCard : Claim7 := { stood := { row := fellReachesRow, standIns := [], harness := (true, "48be798ff9b1b8bcc8241c5b4d70f0951b1ef6458c409a57f849d83dbb13ad02"), looks := true }, kinds := [], alts := [], laidByText := true, laidKinds := [.data, .data, .data, .data, .sentinel, .sentinel, .pinned], laidTests := true, laidLooks := .later }
def FellReachesCardSaid : Prop := Claim7.holds Tryz.pinned (.plain (OpenSpec.ofChange fellReachesSpec)) fellReachesCard

/-- THE TIED CARD OF 'earmarklaw04.FellEarliests'. -/
def fellEarliestsCard : Claim7 := { stood := { row := fellEarliestsRow, standIns := [], harness := (true, "48be798ff9b1b8bcc8241c5b4d70f0951b1ef6458c409a57f849d83dbb13ad02"), looks := true }, kinds := [], alts := [], laidByText := true, laidKinds := [.data, .data, .data, .data, .sentinel, .sentinel, .pinned], laidTests := true, laidLooks := .later }
def FellEarliestsCardSaid : Prop := Claim7.holds Tryz.pinned (.plain (OpenSpec.ofChange fellEarliestsSpec)) fellEarliestsCard

/-- THE TIED CARD OF 'earmarklaw04.FellPaths'. -/
def fellPathsCard : Claim7 := { stood := { row := fellPathsRow, standIns := [], harness := (true, "48be798ff9b1b8bcc8241c5b4d70f0951b1ef6458c409a57f849d83dbb13ad02"), looks := true }, kinds := [], alts := [], laidByText := true, laidKinds := [.data, .data, .data, .data, .sentinel, .sentinel, .pinned], laidTests := true, laidLooks := .later }
def FellPathsCardSaid : Prop := Claim7.holds Tryz.pinned (.plain (OpenSpec.ofChange fellPathsSpec)) fellPathsCard

/-- THE TIED CARD OF 'earmarklaw04.FellMeets'. -/
def fellMeetsCard : Claim7 := { stood := { row := fellMeetsRow, standIns := [], harness := (true, "48be798ff9b1b8bcc8241c5b4d70f0951b1ef6458c409a57f849d83dbb13ad02"), looks := true }, kinds := [], alts := [], laidByText := true, laidKinds := [.data, .data, .data, .data, .sentinel, .sentinel, .pinned], laidTests := true, laidLooks := .later }
def FellMeetsCardSaid : Prop := Claim7.holds Tryz.pinned (.plain (OpenSpec.ofChange fellMeetsSpec)) fellMeetsCard

/-- THE TIED CARD OF 'earmarklaw04.FellFolds'. -/
def fellFoldsCard : Claim7 := { stood := { row := fellFoldsRow, standIns := [], harness := (true, "48be798ff9b1b8bcc8241c5b4d70f0951b1ef6458c409a57f849d83dbb13ad02"), looks := true }, kinds := [], alts := [], laidByText := true, laidKinds := [.data, .data, .data, .data, .sentinel, .sentinel, .pinned], laidTests := true, laidLooks := .later }
def FellFoldsCardSaid : Prop := Claim7.holds Tryz.pinned (.plain (OpenSpec.ofChange fellFoldsSpec)) fellFoldsCard

/-- THE TIED CARD OF 'earmarklaw04.FellShuts'. -/
def fellShutsCard : Claim7 := { stood := { row := fellShutsRow, standIns := [], harness := (true, "48be798ff9b1b8bcc8241c5b4d70f0951b1ef6458c409a57f849d83dbb13ad02"), looks := true }, kinds := [], alts := [], laidByText := true, laidKinds := [.data, .data, .data, .data, .sentinel, .sentinel, .pinned], laidTests := true, laidLooks := .later }
def FellShutsCardSaid : Prop := Claim7.holds Tryz.pinned (.plain (OpenSpec.ofChange fellShutsSpec)) fellShutsCard

/-- THE TIED CARD OF 'earmarklaw04.FellTexts'. -/
def fellTextsCard : Claim7 := { stood := { row := fellTextsRow, standIns := [], harness := (true, "48be798ff9b1b8bcc8241c5b4d70f0951b1ef6458c409a57f849d83dbb13ad02"), looks := true }, kinds := [], alts := [], laidByText := true, laidKinds := [.data, .data, .data, .data, .sentinel, .sentinel, .pinned], laidTests := true, laidLooks := .later }
def FellTextsCardSaid : Prop := Claim7.holds Tryz.pinned (.plain (OpenSpec.ofChange fellTextsSpec)) fellTextsCard

/-- THE TIED CARD OF 'earmarklaw04.FellMenger'. -/
def fellMengerCard : Claim7 := { stood := { row := fellMengerRow, standIns := [], harness := (true, "48be798ff9b1b8bcc8241c5b4d70f0951b1ef6458c409a57f849d83dbb13ad02"), looks := true }, kinds := [], alts := [], laidByText := true, laidKinds := [.data, .data, .data, .data, .sentinel, .sentinel, .pinned], laidTests := true, laidLooks := .later }
def FellMengerCardSaid : Prop := Claim7.holds Tryz.pinned (.plain (OpenSpec.ofChange fellMengerSpec)) fellMengerCard

/-- THE TIED CARD OF 'earmarklaw04.FellComposes'. -/
def fellComposesCard : Claim7 := { stood := { row := fellComposesRow, standIns := [], harness := (true, "48be798ff9b1b8bcc8241c5b4d70f0951b1ef6458c409a57f849d83dbb13ad02"), looks := true }, kinds := [], alts := [], laidByText := true, laidKinds := [.data, .data, .data, .data, .sentinel, .sentinel, .pinned], laidTests := true, laidLooks := .later }
def FellComposesCardSaid : Prop := Claim7.holds Tryz.pinned (.plain (OpenSpec.ofChange fellComposesSpec)) fellComposesCard

/-- THE TIED CARD OF 'earmarklaw04.FellArrives'. -/
def fellArrivesCard : Claim7 := { stood := { row := fellArrivesRow, standIns := [], harness := (true, "48be798ff9b1b8bcc8241c5b4d70f0951b1ef6458c409a57f849d83dbb13ad02"), looks := true }, kinds := [], alts := [], laidByText := true, laidKinds := [.data, .data, .data, .data, .sentinel, .sentinel, .pinned], laidTests := true, laidLooks := .later }
def FellArrivesCardSaid : Prop := Claim7.holds Tryz.pinned (.plain (OpenSpec.ofChange fellArrivesSpec)) fellArrivesCard

/-- THE TIED CARD OF 'earmarklaw04.FellEvers'. -/
def fellEversCard : Claim7 := { stood := { row := fellEversRow, standIns := [], harness := (true, "48be798ff9b1b8bcc8241c5b4d70f0951b1ef6458c409a57f849d83dbb13ad02"), looks := true }, kinds := [], alts := [], laidByText := true, laidKinds := [.data, .data, .data, .data, .sentinel, .sentinel, .pinned], laidTests := true, laidLooks := .later }
def FellEversCardSaid : Prop := Claim7.holds Tryz.pinned (.plain (OpenSpec.ofChange fellEversSpec)) fellEversCard

/-- THE TIED CARD OF 'earmarklaw04.FellBridged'. -/
def fellBridgedCard : Claim7 := { stood := { row := fellBridgedRow, standIns := [], harness := (true, "48be798ff9b1b8bcc8241c5b4d70f0951b1ef6458c409a57f849d83dbb13ad02"), looks := true }, kinds := [], alts := [], laidByText := true, laidKinds := [.data, .data, .data, .data, .sentinel, .sentinel, .pinned], laidTests := true, laidLooks := .later }
def FellBridgedCardSaid : Prop := Claim7.holds Tryz.pinned (.plain (OpenSpec.ofChange fellBridgedSpec)) fellBridgedCard

/-- THE TIED CARD OF 'earmarklaw04.FellBack'. -/
def fellBackCard : Claim7 := { stood := { row := fellBackRow, standIns := [], harness := (true, "48be798ff9b1b8bcc8241c5b4d70f0951b1ef6458c409a57f849d83dbb13ad02"), looks := true }, kinds := [], alts := [], laidByText := true, laidKinds := [.data, .data, .data, .data, .sentinel, .sentinel, .pinned], laidTests := true, laidLooks := .later }
def FellBackCardSaid : Prop := Claim7.holds Tryz.pinned (.plain (OpenSpec.ofChange fellBackSpec)) fellBackCard

/-- THE SECOND FORM's CARD OF 'earmarklaw04.FellDays'. -/
def fellDaysUptoCard : Claim7 := { stood := { row := fellDaysUptoRow, standIns := [], harness := (true, "48be798ff9b1b8bcc8241c5b4d70f0951b1ef6458c409a57f849d83dbb13ad02"), looks := true }, kinds := [], alts := [], laidByText := true, laidKinds := [.data, .data, .data, .data, .sentinel, .sentinel, .pinned], laidTests := true, laidLooks := .later }
def FellDaysUptoCardSaid : Prop := Claim7.holds Tryz.pinned (.plain (OpenSpec.upto fellDaysSpec)) fellDaysUptoCard

/-- THE SECOND FORM's CARD OF 'earmarklaw04.FellParts'. -/
def fellPartsUptoCard : Claim7 := { stood := { row := fellPartsUptoRow, standIns := [], harness := (true, "48be798ff9b1b8bcc8241c5b4d70f0951b1ef6458c409a57f849d83dbb13ad02"), looks := true }, kinds := [], alts := [], laidByText := true, laidKinds := [.data, .data, .data, .data, .sentinel, .sentinel, .pinned], laidTests := true, laidLooks := .later }
def FellPartsUptoCardSaid : Prop := Claim7.holds Tryz.pinned (.plain (OpenSpec.upto fellPartsSpec)) fellPartsUptoCard

/-- THE SECOND FORM's CARD OF 'earmarklaw04.FellReaches'. -/
def fellReachesUptoCard : Claim7 := { stood := { row := fellReachesUptoRow, standIns := [], harness := (true, "48be798ff9b1b8bcc8241c5b4d70f0951b1ef6458c409a57f849d83dbb13ad02"), looks := true }, kinds := [], alts := [], laidByText := true, laidKinds := [.data, .data, .data, .data, .sentinel, .sentinel, .pinned], laidTests := true, laidLooks := .later }
def FellReachesUptoCardSaid : Prop := Claim7.holds Tryz.pinned (.plain (OpenSpec.upto fellReachesSpec)) fellReachesUptoCard

/-- THE SECOND FORM's CARD OF 'earmarklaw04.FellEarliests'. -/
def fellEarliestsUptoCard : Claim7 := { stood := { row := fellEarliestsUptoRow, standIns := [], harness := (true, "48be798ff9b1b8bcc8241c5b4d70f0951b1ef6458c409a57f849d83dbb13ad02"), looks := true }, kinds := [], alts := [], laidByText := true, laidKinds := [.data, .data, .data, .data, .sentinel, .sentinel, .pinned], laidTests := true, laidLooks := .later }
def FellEarliestsUptoCardSaid : Prop := Claim7.holds Tryz.pinned (.plain (OpenSpec.upto fellEarliestsSpec)) fellEarliestsUptoCard

/-- THE SECOND FORM's CARD OF 'earmarklaw04.FellPaths'. -/
def fellPathsUptoCard : Claim7 := { stood := { row := fellPathsUptoRow, standIns := [], harness := (true, "48be798ff9b1b8bcc8241c5b4d70f0951b1ef6458c409a57f849d83dbb13ad02"), looks := true }, kinds := [], alts := [], laidByText := true, laidKinds := [.data, .data, .data, .data, .sentinel, .sentinel, .pinned], laidTests := true, laidLooks := .later }
def FellPathsUptoCardSaid : Prop := Claim7.holds Tryz.pinned (.plain (OpenSpec.upto fellPathsSpec)) fellPathsUptoCard

/-- THE SECOND FORM's CARD OF 'earmarklaw04.FellMeets'. -/
def fellMeetsUptoCard : Claim7 := { stood := { row := fellMeetsUptoRow, standIns := [], harness := (true, "48be798ff9b1b8bcc8241c5b4d70f0951b1ef6458c409a57f849d83dbb13ad02"), looks := true }, kinds := [], alts := [], laidByText := true, laidKinds := [.data, .data, .data, .data, .sentinel, .sentinel, .pinned], laidTests := true, laidLooks := .later }
def FellMeetsUptoCardSaid : Prop := Claim7.holds Tryz.pinned (.plain (OpenSpec.upto fellMeetsSpec)) fellMeetsUptoCard

/-- THE SECOND FORM's CARD OF 'earmarklaw04.FellFolds'. -/
def fellFoldsUptoCard : Claim7 := { stood := { row := fellFoldsUptoRow, standIns := [], harness := (true, "48be798ff9b1b8bcc8241c5b4d70f0951b1ef6458c409a57f849d83dbb13ad02"), looks := true }, kinds := [], alts := [], laidByText := true, laidKinds := [.data, .data, .data, .data, .sentinel, .sentinel, .pinned], laidTests := true, laidLooks := .later }
def FellFoldsUptoCardSaid : Prop := Claim7.holds Tryz.pinned (.plain (OpenSpec.upto fellFoldsSpec)) fellFoldsUptoCard

/-- THE SECOND FORM's CARD OF 'earmarklaw04.FellShuts'. -/
def fellShutsUptoCard : Claim7 := { stood := { row := fellShutsUptoRow, standIns := [], harness := (true, "48be798ff9b1b8bcc8241c5b4d70f0951b1ef6458c409a57f849d83dbb13ad02"), looks := true }, kinds := [], alts := [], laidByText := true, laidKinds := [.data, .data, .data, .data, .sentinel, .sentinel, .pinned], laidTests := true, laidLooks := .later }
def FellShutsUptoCardSaid : Prop := Claim7.holds Tryz.pinned (.plain (OpenSpec.upto fellShutsSpec)) fellShutsUptoCard

/-- THE SECOND FORM's CARD OF 'earmarklaw04.FellTexts'. -/
def fellTextsUptoCard : Claim7 := { stood := { row := fellTextsUptoRow, standIns := [], harness := (true, "48be798ff9b1b8bcc8241c5b4d70f0951b1ef6458c409a57f849d83dbb13ad02"), looks := true }, kinds := [], alts := [], laidByText := true, laidKinds := [.data, .data, .data, .data, .sentinel, .sentinel, .pinned], laidTests := true, laidLooks := .later }
def FellTextsUptoCardSaid : Prop := Claim7.holds Tryz.pinned (.plain (OpenSpec.upto fellTextsSpec)) fellTextsUptoCard

/-- THE SECOND FORM's CARD OF 'earmarklaw04.FellMenger'. -/
def fellMengerUptoCard : Claim7 := { stood := { row := fellMengerUptoRow, standIns := [], harness := (true, "48be798ff9b1b8bcc8241c5b4d70f0951b1ef6458c409a57f849d83dbb13ad02"), looks := true }, kinds := [], alts := [], laidByText := true, laidKinds := [.data, .data, .data, .data, .sentinel, .sentinel, .pinned], laidTests := true, laidLooks := .later }
def FellMengerUptoCardSaid : Prop := Claim7.holds Tryz.pinned (.plain (OpenSpec.upto fellMengerSpec)) fellMengerUptoCard

/-- THE SECOND FORM's CARD OF 'earmarklaw04.FellComposes'. -/
def fellComposesUptoCard : Claim7 := { stood := { row := fellComposesUptoRow, standIns := [], harness := (true, "48be798ff9b1b8bcc8241c5b4d70f0951b1ef6458c409a57f849d83dbb13ad02"), looks := true }, kinds := [], alts := [], laidByText := true, laidKinds := [.data, .data, .data, .data, .sentinel, .sentinel, .pinned], laidTests := true, laidLooks := .later }
def FellComposesUptoCardSaid : Prop := Claim7.holds Tryz.pinned (.plain (OpenSpec.upto fellComposesSpec)) fellComposesUptoCard

/-- THE SECOND FORM's CARD OF 'earmarklaw04.FellArrives'. -/
def fellArrivesUptoCard : Claim7 := { stood := { row := fellArrivesUptoRow, standIns := [], harness := (true, "48be798ff9b1b8bcc8241c5b4d70f0951b1ef6458c409a57f849d83dbb13ad02"), looks := true }, kinds := [], alts := [], laidByText := true, laidKinds := [.data, .data, .data, .data, .sentinel, .sentinel, .pinned], laidTests := true, laidLooks := .later }
def FellArrivesUptoCardSaid : Prop := Claim7.holds Tryz.pinned (.plain (OpenSpec.upto fellArrivesSpec)) fellArrivesUptoCard

/-- THE SECOND FORM's CARD OF 'earmarklaw04.FellEvers'. -/
def fellEversUptoCard : Claim7 := { stood := { row := fellEversUptoRow, standIns := [], harness := (true, "48be798ff9b1b8bcc8241c5b4d70f0951b1ef6458c409a57f849d83dbb13ad02"), looks := true }, kinds := [], alts := [], laidByText := true, laidKinds := [.data, .data, .data, .data, .sentinel, .sentinel, .pinned], laidTests := true, laidLooks := .later }
def FellEversUptoCardSaid : Prop := Claim7.holds Tryz.pinned (.plain (OpenSpec.upto fellEversSpec)) fellEversUptoCard

/-- THE SECOND FORM's CARD OF 'earmarklaw04.FellBridged'. -/
def fellBridgedUptoCard : Claim7 := { stood := { row := fellBridgedUptoRow, standIns := [], harness := (true, "48be798ff9b1b8bcc8241c5b4d70f0951b1ef6458c409a57f849d83dbb13ad02"), looks := true }, kinds := [], alts := [], laidByText := true, laidKinds := [.data, .data, .data, .data, .sentinel, .sentinel, .pinned], laidTests := true, laidLooks := .later }
def FellBridgedUptoCardSaid : Prop := Claim7.holds Tryz.pinned (.plain (OpenSpec.upto fellBridgedSpec)) fellBridgedUptoCard

/-- THE SECOND FORM's CARD OF 'earmarklaw04.FellBack'. -/
def fellBackUptoCard : Claim7 := { stood := { row := fellBackUptoRow, standIns := [], harness := (true, "48be798ff9b1b8bcc8241c5b4d70f0951b1ef6458c409a57f849d83dbb13ad02"), looks := true }, kinds := [], alts := [], laidByText := true, laidKinds := [.data, .data, .data, .data, .sentinel, .sentinel, .pinned], laidTests := true, laidLooks := .later }
def FellBackUptoCardSaid : Prop := Claim7.holds Tryz.pinned (.plain (OpenSpec.upto fellBackSpec)) fellBackUptoCard
end Rows
end Go.Proofs.YtjjmnoiiihcoiaaGreatDoor
