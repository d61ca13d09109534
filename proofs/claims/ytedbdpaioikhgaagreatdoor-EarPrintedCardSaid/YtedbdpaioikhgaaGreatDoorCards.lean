/-
  DERIVED. GIVEN WITH THE SEED: THE CARDS: each row of YtedbdpaioikhgaaGreatDoorRows.lean that lists a variable, with what it lists TIED to the program's text (the seventh form; the later family's looks); each row that meets fmt, with fmt's text TOLD by the authors' own Lean function (tested against real Go, not proved from fmt's source: count such statements apart). THE CARD IS WHAT COUNTS. Prove the row's statement (the work); the ties are given (YtedbdpaioikhgaaGreatDoorTie.lean); close each card by the builder's one call (the guide's Derived/Test/ToyasCard.lean, 'card_holds'). Laid BY PROGRAM, IN A SANDBOX (cutbox-door.mjs). By AI agents, Wed Nov 11 2026. No macro, syntax, notation, axiom, sorry.
-/
import Derived.Test.YtedbdpaioikhgaaGreatDoorRows
import GoSem.ClaimSeven
namespace Go.Proofs.YtedbdpaioikhgaaGreatDoor
namespace Rows

/-- THE TIED CARD OF 'earmarklaw01.EarChecks'. -/
def earChecksCard : Claim7 := { stood := { row := earChecksRow, standIns := [], harness := (true, "af73bb48314cbe275c9ba45224646f6167d03efb3c659e7536eb51d5b27adf9e"), looks := false }, kinds := [], alts := [], laidByText := true, laidKinds := [.data, .data, .data, .data], laidTests := true, laidLooks := .later }
def EarChecksCardSaid : Prop := Claim7.holds Tryz.pinned (.plain (OpenSpec.ofChange earChecksSpec)) earChecksCard

/-- THE TIED CARD OF 'earmarklaw01.EarCodes'. -/
def earCodesCard : Claim7 := { stood := { row := earCodesRow, standIns := [], harness := (true, "af73bb48314cbe275c9ba45224646f6167d03efb3c659e7536eb51d5b27adf9e"), looks := false }, kinds := [], alts := [], laidByText := true, laidKinds := [.data, .data, .data, .data], laidTests := true, laidLooks := .later }
def EarCodesCardSaid : Prop := Claim7.holds Tryz.pinned (.plain (OpenSpec.ofChange earCodesSpec)) earCodesCard

/-- THE TIED CARD OF 'earmarklaw01.EarFeatures'. -/
def earFeaturesCard : Claim7 := { stood := { row := earFeaturesRow, standIns := [], harness := (true, "af73bb48314cbe275c9ba45224646f6167d03efb3c659e7536eb51d5b27adf9e"), looks := false }, kinds := [], alts := [], laidByText := true, laidKinds := [.data, .data, .data, .data], laidTests := true, laidLooks := .later }
def EarFeaturesCardSaid : Prop := Claim7.holds Tryz.pinned (.plain (OpenSpec.ofChange earFeaturesSpec)) earFeaturesCard

/-- THE TIED CARD OF 'earmarklaw01.EarDistances'. -/
def earDistancesCard : Claim7 := { stood := { row := earDistancesRow, standIns := [], harness := (true, "af73bb48314cbe275c9ba45224646f6167d03efb3c659e7536eb51d5b27adf9e"), looks := false }, kinds := [], alts := [], laidByText := true, laidKinds := [.data, .data, .data, .data], laidTests := true, laidLooks := .later }
def EarDistancesCardSaid : Prop := Claim7.holds Tryz.pinned (.plain (OpenSpec.ofChange earDistancesSpec)) earDistancesCard

/-- THE TIED CARD OF 'earmarklaw01.EarShorts'. -/
def earShortsCard : Claim7 := { stood := { row := earShortsRow, standIns := [], harness := (true, "af73bb48314cbe275c9ba45224646f6167d03efb3c659e7536eb51d5b27adf9e"), looks := false }, kinds := [], alts := [], laidByText := true, laidKinds := [.data, .data, .data, .data], laidTests := true, laidLooks := .later }
def EarShortsCardSaid : Prop := Claim7.holds Tryz.pinned (.plain (OpenSpec.ofChange earShortsSpec)) earShortsCard

/-- THE TIED CARD OF 'earmarklaw01.EarWords'. -/
def earWordsCard : Claim7 := { stood := { row := earWordsRow, standIns := [], harness := (true, "af73bb48314cbe275c9ba45224646f6167d03efb3c659e7536eb51d5b27adf9e"), looks := false }, kinds := [], alts := [], laidByText := true, laidKinds := [.data, .data, .data, .data], laidTests := true, laidLooks := .later }
def EarWordsCardSaid : Prop := Claim7.holds Tryz.pinned (.plain (OpenSpec.ofChange earWordsSpec)) earWordsCard

/-- THE TIED CARD OF 'earmarklaw01.EarMarks'. -/
def earMarksCard : Claim7 := { stood := { row := earMarksRow, standIns := [], harness := (true, "af73bb48314cbe275c9ba45224646f6167d03efb3c659e7536eb51d5b27adf9e"), looks := false }, kinds := [], alts := [], laidByText := true, laidKinds := [.data, .data, .data, .data], laidTests := true, laidLooks := .later }
def EarMarksCardSaid : Prop := Claim7.holds Tryz.pinned (.plain (OpenSpec.ofChange earMarksSpec)) earMarksCard

/-- THE TIED CARD OF 'earmarklaw01.EarPrinted'. -/
def earPrintedCard : Claim7 := { stood := { row := earPrintedRow, standIns := [], harness := (true, "af73bb48314cbe275c9ba45224646f6167d03efb3c659e7536eb51d5b27adf9e"), looks := false }, kinds := [], alts := [], laidByText := true, laidKinds := [.data, .data, .data, .data], laidTests := true, laidLooks := .later }
def EarPrintedCardSaid : Prop := Claim7.holds Tryz.pinned (.plain (OpenSpec.ofChange earPrintedSpec)) earPrintedCard

/-- THE SECOND FORM's CARD OF 'earmarklaw01.EarChecks'. -/
def earChecksUptoCard : Claim7 := { stood := { row := earChecksUptoRow, standIns := [], harness := (true, "af73bb48314cbe275c9ba45224646f6167d03efb3c659e7536eb51d5b27adf9e"), looks := false }, kinds := [], alts := [], laidByText := true, laidKinds := [.data, .data, .data, .data], laidTests := true, laidLooks := .later }
def EarChecksUptoCardSaid : Prop := Claim7.holds Tryz.pinned (.plain (OpenSpec.upto earChecksSpec)) earChecksUptoCard

/-- THE SECOND FORM's CARD OF 'earmarklaw01.EarCodes'. -/
def earCodesUptoCard : Claim7 := { stood := { row := earCodesUptoRow, standIns := [], harness := (true, "af73bb48314cbe275c9ba45224646f6167d03efb3c659e7536eb51d5b27adf9e"), looks := false }, kinds := [], alts := [], laidByText := true, laidKinds := [.data, .data, .data, .data], laidTests := true, laidLooks := .later }
def EarCodesUptoCardSaid : Prop := Claim7.holds Tryz.pinned (.plain (OpenSpec.upto earCodesSpec)) earCodesUptoCard

/-- THE SECOND FORM's CARD OF 'earmarklaw01.EarFeatures'. -/
def earFeaturesUptoCard : Claim7 := { stood := { row := earFeaturesUptoRow, standIns := [], harness := (true, "af73bb48314cbe275c9ba45224646f6167d03efb3c659e7536eb51d5b27adf9e"), looks := false }, kinds := [], alts := [], laidByText := true, laidKinds := [.data, .data, .data, .data], laidTests := true, laidLooks := .later }
def EarFeaturesUptoCardSaid : Prop := Claim7.holds Tryz.pinned (.plain (OpenSpec.upto earFeaturesSpec)) earFeaturesUptoCard

/-- THE SECOND FORM's CARD OF 'earmarklaw01.EarDistances'. -/
def earDistancesUptoCard : Claim7 := { stood := { row := earDistancesUptoRow, standIns := [], harness := (true, "af73bb48314cbe275c9ba45224646f6167d03efb3c659e7536eb51d5b27adf9e"), looks := false }, kinds := [], alts := [], laidByText := true, laidKinds := [.data, .data, .data, .data], laidTests := true, laidLooks := .later }
def EarDistancesUptoCardSaid : Prop := Claim7.holds Tryz.pinned (.plain (OpenSpec.upto earDistancesSpec)) earDistancesUptoCard

/-- THE SECOND FORM's CARD OF 'earmarklaw01.EarShorts'. -/
def earShortsUptoCard : Claim7 := { stood := { row := earShortsUptoRow, standIns := [], harness := (true, "af73bb48314cbe275c9ba45224646f6167d03efb3c659e7536eb51d5b27adf9e"), looks := false }, kinds := [], alts := [], laidByText := true, laidKinds := [.data, .data, .data, .data], laidTests := true, laidLooks := .later }
def EarShortsUptoCardSaid : Prop := Claim7.holds Tryz.pinned (.plain (OpenSpec.upto earShortsSpec)) earShortsUptoCard

/-- THE SECOND FORM's CARD OF 'earmarklaw01.EarWords'. -/
def earWordsUptoCard : Claim7 := { stood := { row := earWordsUptoRow, standIns := [], harness := (true, "af73bb48314cbe275c9ba45224646f6167d03efb3c659e7536eb51d5b27adf9e"), looks := false }, kinds := [], alts := [], laidByText := true, laidKinds := [.data, .data, .data, .data], laidTests := true, laidLooks := .later }
def EarWordsUptoCardSaid : Prop := Claim7.holds Tryz.pinned (.plain (OpenSpec.upto earWordsSpec)) earWordsUptoCard

/-- THE SECOND FORM's CARD OF 'earmarklaw01.EarMarks'. -/
def earMarksUptoCard : Claim7 := { stood := { row := earMarksUptoRow, standIns := [], harness := (true, "af73bb48314cbe275c9ba45224646f6167d03efb3c659e7536eb51d5b27adf9e"), looks := false }, kinds := [], alts := [], laidByText := true, laidKinds := [.data, .data, .data, .data], laidTests := true, laidLooks := .later }
def EarMarksUptoCardSaid : Prop := Claim7.holds Tryz.pinned (.plain (OpenSpec.upto earMarksSpec)) earMarksUptoCard

/-- THE SECOND FORM's CARD OF 'earmarklaw01.EarPrinted'. -/
def earPrintedUptoCard : Claim7 := { stood := { row := earPrintedUptoRow, standIns := [], harness := (true, "af73bb48314cbe275c9ba45224646f6167d03efb3c659e7536eb51d5b27adf9e"), looks := false }, kinds := [], alts := [], laidByText := true, laidKinds := [.data, .data, .data, .data], laidTests := true, laidLooks := .later }
def EarPrintedUptoCardSaid : Prop := Claim7.holds Tryz.pinned (.plain (OpenSpec.upto earPrintedSpec)) earPrintedUptoCard
end Rows
end Go.Proofs.YtedbdpaioikhgaaGreatDoor
