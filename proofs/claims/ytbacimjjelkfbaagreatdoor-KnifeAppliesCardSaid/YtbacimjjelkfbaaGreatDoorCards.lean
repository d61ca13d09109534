/-
  DERIVED. GIVEN WITH THE SEED: THE CARDS: each row of YtbacimjjelkfbaaGreatDoorRows.lean that lists a variable, with what it lists TIED to the program's text (the seventh form; the later family's looks); each row that meets fmt, with fmt's text TOLD by the authors' own Lean function (tested against real Go, not proved from fmt's source: count such statements apart). THE CARD IS WHAT COUNTS. Prove the row's statement (the work); the ties are given (YtbacimjjelkfbaaGreatDoorTie.lean); close each card by the builder's one call (the guide's Derived/Test/ToyasCard.lean, 'card_holds'). Laid BY PROGRAM, IN A SANDBOX (cutbox-door.mjs). By AI agents, Wed Nov 11 2026. No macro, syntax, notation, axiom, sorry.
-/
import Derived.Test.YtbacimjjelkfbaaGreatDoorRows
import GoSem.ClaimSeven
namespace Go.Proofs.YtbacimjjelkfbaaGreatDoor
namespace Rows

/-- THE TIED CARD OF 'earmarklaw03.KnifeCuts'. -/
def knifeCutsCard : Claim7 := { stood := { row := knifeCutsRow, standIns := [], harness := (true, "aecbf3898f5b710ec80b579a01889f5d05963711863ae9a8b95004252bf81de3"), looks := false }, kinds := [], alts := [], laidByText := true, laidKinds := [.data, .data, .data, .data, .data, .data, .data], laidTests := true, laidLooks := .later }
def KnifeCutsCardSaid : Prop := Claim7.holds Tryz.pinned (.plain (OpenSpec.ofChange knifeCutsSpec)) knifeCutsCard

/-- THE TIED CARD OF 'earmarklaw03.KnifeApplies'. -/
def knifeAppliesCard : Claim7 := { stood := { row := knifeAppliesRow, standIns := [], harness := (true, "aecbf3898f5b710ec80b579a01889f5d05963711863ae9a8b95004252bf81de3"), looks := false }, kinds := [], alts := [], laidByText := true, laidKinds := [.data, .data, .data, .data, .data, .data, .data], laidTests := true, laidLooks := .later }
def KnifeAppliesCardSaid : Prop := Claim7.holds Tryz.pinned (.plain (OpenSpec.ofChange knifeAppliesSpec)) knifeAppliesCard

/-- THE TIED CARD OF 'earmarklaw03.KnifeSteps'. -/
def knifeStepsCard : Claim7 := { stood := { row := knifeStepsRow, standIns := [], harness := (true, "aecbf3898f5b710ec80b579a01889f5d05963711863ae9a8b95004252bf81de3"), looks := false }, kinds := [], alts := [], laidByText := true, laidKinds := [.data, .data, .data, .data, .data, .data, .data], laidTests := true, laidLooks := .later }
def KnifeStepsCardSaid : Prop := Claim7.holds Tryz.pinned (.plain (OpenSpec.ofChange knifeStepsSpec)) knifeStepsCard

/-- THE TIED CARD OF 'earmarklaw03.KnifeChecks'. -/
def knifeChecksCard : Claim7 := { stood := { row := knifeChecksRow, standIns := [], harness := (true, "aecbf3898f5b710ec80b579a01889f5d05963711863ae9a8b95004252bf81de3"), looks := false }, kinds := [], alts := [], laidByText := true, laidKinds := [.data, .data, .data, .data, .data, .data, .data], laidTests := true, laidLooks := .later }
def KnifeChecksCardSaid : Prop := Claim7.holds Tryz.pinned (.plain (OpenSpec.ofChange knifeChecksSpec)) knifeChecksCard

/-- THE TIED CARD OF 'earmarklaw03.KnifeTexts'. -/
def knifeTextsCard : Claim7 := { stood := { row := knifeTextsRow, standIns := [], harness := (true, "aecbf3898f5b710ec80b579a01889f5d05963711863ae9a8b95004252bf81de3"), looks := false }, kinds := [], alts := [], laidByText := true, laidKinds := [.data, .data, .data, .data, .data, .data, .data], laidTests := true, laidLooks := .later }
def KnifeTextsCardSaid : Prop := Claim7.holds Tryz.pinned (.plain (OpenSpec.ofChange knifeTextsSpec)) knifeTextsCard

/-- THE SECOND FORM's CARD OF 'earmarklaw03.KnifeCuts'. -/
def knifeCutsUptoCard : Claim7 := { stood := { row := knifeCutsUptoRow, standIns := [], harness := (true, "aecbf3898f5b710ec80b579a01889f5d05963711863ae9a8b95004252bf81de3"), looks := false }, kinds := [], alts := [], laidByText := true, laidKinds := [.data, .data, .data, .data, .data, .data, .data], laidTests := true, laidLooks := .later }
def KnifeCutsUptoCardSaid : Prop := Claim7.holds Tryz.pinned (.plain (OpenSpec.upto knifeCutsSpec)) knifeCutsUptoCard

/-- THE SECOND FORM's CARD OF 'earmarklaw03.KnifeApplies'. -/
def knifeAppliesUptoCard : Claim7 := { stood := { row := knifeAppliesUptoRow, standIns := [], harness := (true, "aecbf3898f5b710ec80b579a01889f5d05963711863ae9a8b95004252bf81de3"), looks := false }, kinds := [], alts := [], laidByText := true, laidKinds := [.data, .data, .data, .data, .data, .data, .data], laidTests := true, laidLooks := .later }
def KnifeAppliesUptoCardSaid : Prop := Claim7.holds Tryz.pinned (.plain (OpenSpec.upto knifeAppliesSpec)) knifeAppliesUptoCard

/-- THE SECOND FORM's CARD OF 'earmarklaw03.KnifeSteps'. -/
def knifeStepsUptoCard : Claim7 := { stood := { row := knifeStepsUptoRow, standIns := [], harness := (true, "aecbf3898f5b710ec80b579a01889f5d05963711863ae9a8b95004252bf81de3"), looks := false }, kinds := [], alts := [], laidByText := true, laidKinds := [.data, .data, .data, .data, .data, .data, .data], laidTests := true, laidLooks := .later }
def KnifeStepsUptoCardSaid : Prop := Claim7.holds Tryz.pinned (.plain (OpenSpec.upto knifeStepsSpec)) knifeStepsUptoCard

/-- THE SECOND FORM's CARD OF 'earmarklaw03.KnifeChecks'. -/
def knifeChecksUptoCard : Claim7 := { stood := { row := knifeChecksUptoRow, standIns := [], harness := (true, "aecbf3898f5b710ec80b579a01889f5d05963711863ae9a8b95004252bf81de3"), looks := false }, kinds := [], alts := [], laidByText := true, laidKinds := [.data, .data, .data, .data, .data, .data, .data], laidTests := true, laidLooks := .later }
def KnifeChecksUptoCardSaid : Prop := Claim7.holds Tryz.pinned (.plain (OpenSpec.upto knifeChecksSpec)) knifeChecksUptoCard

/-- THE SECOND FORM's CARD OF 'earmarklaw03.KnifeTexts'. -/
def knifeTextsUptoCard : Claim7 := { stood := { row := knifeTextsUptoRow, standIns := [], harness := (true, "aecbf3898f5b710ec80b579a01889f5d05963711863ae9a8b95004252bf81de3"), looks := false }, kinds := [], alts := [], laidByText := true, laidKinds := [.data, .data, .data, .data, .data, .data, .data], laidTests := true, laidLooks := .later }
def KnifeTextsUptoCardSaid : Prop := Claim7.holds Tryz.pinned (.plain (OpenSpec.upto knifeTextsSpec)) knifeTextsUptoCard
end Rows
end Go.Proofs.YtbacimjjelkfbaaGreatDoor
