/-
  DERIVED. GIVEN WITH THE SEED: THE CARDS: each row of YtedbdpaioikhgaaDoorRows.lean that lists a variable, with what it lists TIED to the program's text (the seventh form; the later family's looks); each row that meets fmt, with fmt's text TOLD by the authors' own Lean function (tested against real Go, not proved from fmt's source: count such statements apart). THE CARD IS WHAT COUNTS. Prove the row's statement (the work); the ties are given (YtedbdpaioikhgaaDoorTie.lean); close each card by the builder's one call (the guide's Derived/Test/ToyasCard.lean, 'card_holds'). Laid BY PROGRAM, IN A SANDBOX (cutbox-door.mjs). By AI agents, Wed Nov 11 2026. No macro, syntax, notation, axiom, sorry.
-/
import Derived.Test.YtedbdpaioikhgaaDoorRows
import GoSem.ClaimSeven
namespace Go.Proofs.YtedbdpaioikhgaaDoor
namespace Rows

/-- THE TIED CARD OF 'earmarklaw01.EarBijection'. -/
def earBijectionCard : Claim7 := { stood := { row := earBijectionRow, standIns := [], harness := (true, "aaa5d12d1039fd8f8de467573de4e9fb2899b71272e5571ccbbce1c0ed323ebf"), looks := false }, kinds := [], alts := [], laidByText := true, laidKinds := [.data, .data, .data, .data], laidTests := true, laidLooks := .later }
def EarBijectionCardSaid : Prop := Claim7.holds Tryd.pinned (.plain (OpenSpec.ofChange earBijectionSpec)) earBijectionCard

/-- THE TIED CARD OF 'earmarklaw01.EarOrder'. -/
def earOrderCard : Claim7 := { stood := { row := earOrderRow, standIns := [], harness := (true, "aaa5d12d1039fd8f8de467573de4e9fb2899b71272e5571ccbbce1c0ed323ebf"), looks := false }, kinds := [], alts := [], laidByText := true, laidKinds := [.data, .data, .data, .data], laidTests := true, laidLooks := .later }
def EarOrderCardSaid : Prop := Claim7.holds Tryd.pinned (.plain (OpenSpec.ofChange earOrderSpec)) earOrderCard

/-- THE TIED CARD OF 'earmarklaw01.EarBuilt'. -/
def earBuiltCard : Claim7 := { stood := { row := earBuiltRow, standIns := [], harness := (true, "aaa5d12d1039fd8f8de467573de4e9fb2899b71272e5571ccbbce1c0ed323ebf"), looks := false }, kinds := [], alts := [], laidByText := true, laidKinds := [.data, .data, .data, .data], laidTests := true, laidLooks := .later }
def EarBuiltCardSaid : Prop := Claim7.holds Tryd.pinned (.plain (OpenSpec.ofChange earBuiltSpec)) earBuiltCard

/-- THE TIED CARD OF 'earmarklaw01.EarMetric'. -/
def earMetricCard : Claim7 := { stood := { row := earMetricRow, standIns := [], harness := (true, "aaa5d12d1039fd8f8de467573de4e9fb2899b71272e5571ccbbce1c0ed323ebf"), looks := false }, kinds := [], alts := [], laidByText := true, laidKinds := [.data, .data, .data, .data], laidTests := true, laidLooks := .later }
def EarMetricCardSaid : Prop := Claim7.holds Tryd.pinned (.plain (OpenSpec.ofChange earMetricSpec)) earMetricCard

/-- THE TIED CARD OF 'earmarklaw01.EarHome'. -/
def earHomeCard : Claim7 := { stood := { row := earHomeRow, standIns := [], harness := (true, "aaa5d12d1039fd8f8de467573de4e9fb2899b71272e5571ccbbce1c0ed323ebf"), looks := false }, kinds := [], alts := [], laidByText := true, laidKinds := [.data, .data, .data, .data], laidTests := true, laidLooks := .later }
def EarHomeCardSaid : Prop := Claim7.holds Tryd.pinned (.plain (OpenSpec.ofChange earHomeSpec)) earHomeCard

/-- THE TIED CARD OF 'earmarklaw01.EarMirrors'. -/
def earMirrorsCard : Claim7 := { stood := { row := earMirrorsRow, standIns := [], harness := (true, "aaa5d12d1039fd8f8de467573de4e9fb2899b71272e5571ccbbce1c0ed323ebf"), looks := false }, kinds := [], alts := [], laidByText := true, laidKinds := [.data, .data, .data, .data], laidTests := true, laidLooks := .later }
def EarMirrorsCardSaid : Prop := Claim7.holds Tryd.pinned (.plain (OpenSpec.ofChange earMirrorsSpec)) earMirrorsCard

/-- THE TIED CARD OF 'earmarklaw01.EarFirst'. -/
def earFirstCard : Claim7 := { stood := { row := earFirstRow, standIns := [], harness := (true, "aaa5d12d1039fd8f8de467573de4e9fb2899b71272e5571ccbbce1c0ed323ebf"), looks := false }, kinds := [], alts := [], laidByText := true, laidKinds := [.data, .data, .data, .data], laidTests := true, laidLooks := .later }
def EarFirstCardSaid : Prop := Claim7.holds Tryd.pinned (.plain (OpenSpec.ofChange earFirstSpec)) earFirstCard

/-- THE SECOND FORM's CARD OF 'earmarklaw01.EarBijection'. -/
def earBijectionUptoCard : Claim7 := { stood := { row := earBijectionUptoRow, standIns := [], harness := (true, "aaa5d12d1039fd8f8de467573de4e9fb2899b71272e5571ccbbce1c0ed323ebf"), looks := false }, kinds := [], alts := [], laidByText := true, laidKinds := [.data, .data, .data, .data], laidTests := true, laidLooks := .later }
def EarBijectionUptoCardSaid : Prop := Claim7.holds Tryd.pinned (.plain (OpenSpec.upto earBijectionSpec)) earBijectionUptoCard

/-- THE SECOND FORM's CARD OF 'earmarklaw01.EarOrder'. -/
def earOrderUptoCard : Claim7 := { stood := { row := earOrderUptoRow, standIns := [], harness := (true, "aaa5d12d1039fd8f8de467573de4e9fb2899b71272e5571ccbbce1c0ed323ebf"), looks := false }, kinds := [], alts := [], laidByText := true, laidKinds := [.data, .data, .data, .data], laidTests := true, laidLooks := .later }
def EarOrderUptoCardSaid : Prop := Claim7.holds Tryd.pinned (.plain (OpenSpec.upto earOrderSpec)) earOrderUptoCard

/-- THE SECOND FORM's CARD OF 'earmarklaw01.EarBuilt'. -/
def earBuiltUptoCard : Claim7 := { stood := { row := earBuiltUptoRow, standIns := [], harness := (true, "aaa5d12d1039fd8f8de467573de4e9fb2899b71272e5571ccbbce1c0ed323ebf"), looks := false }, kinds := [], alts := [], laidByText := true, laidKinds := [.data, .data, .data, .data], laidTests := true, laidLooks := .later }
def EarBuiltUptoCardSaid : Prop := Claim7.holds Tryd.pinned (.plain (OpenSpec.upto earBuiltSpec)) earBuiltUptoCard

/-- THE SECOND FORM's CARD OF 'earmarklaw01.EarMetric'. -/
def earMetricUptoCard : Claim7 := { stood := { row := earMetricUptoRow, standIns := [], harness := (true, "aaa5d12d1039fd8f8de467573de4e9fb2899b71272e5571ccbbce1c0ed323ebf"), looks := false }, kinds := [], alts := [], laidByText := true, laidKinds := [.data, .data, .data, .data], laidTests := true, laidLooks := .later }
def EarMetricUptoCardSaid : Prop := Claim7.holds Tryd.pinned (.plain (OpenSpec.upto earMetricSpec)) earMetricUptoCard

/-- THE SECOND FORM's CARD OF 'earmarklaw01.EarHome'. -/
def earHomeUptoCard : Claim7 := { stood := { row := earHomeUptoRow, standIns := [], harness := (true, "aaa5d12d1039fd8f8de467573de4e9fb2899b71272e5571ccbbce1c0ed323ebf"), looks := false }, kinds := [], alts := [], laidByText := true, laidKinds := [.data, .data, .data, .data], laidTests := true, laidLooks := .later }
def EarHomeUptoCardSaid : Prop := Claim7.holds Tryd.pinned (.plain (OpenSpec.upto earHomeSpec)) earHomeUptoCard

/-- THE SECOND FORM's CARD OF 'earmarklaw01.EarMirrors'. -/
def earMirrorsUptoCard : Claim7 := { stood := { row := earMirrorsUptoRow, standIns := [], harness := (true, "aaa5d12d1039fd8f8de467573de4e9fb2899b71272e5571ccbbce1c0ed323ebf"), looks := false }, kinds := [], alts := [], laidByText := true, laidKinds := [.data, .data, .data, .data], laidTests := true, laidLooks := .later }
def EarMirrorsUptoCardSaid : Prop := Claim7.holds Tryd.pinned (.plain (OpenSpec.upto earMirrorsSpec)) earMirrorsUptoCard

/-- THE SECOND FORM's CARD OF 'earmarklaw01.EarFirst'. -/
def earFirstUptoCard : Claim7 := { stood := { row := earFirstUptoRow, standIns := [], harness := (true, "aaa5d12d1039fd8f8de467573de4e9fb2899b71272e5571ccbbce1c0ed323ebf"), looks := false }, kinds := [], alts := [], laidByText := true, laidKinds := [.data, .data, .data, .data], laidTests := true, laidLooks := .later }
def EarFirstUptoCardSaid : Prop := Claim7.holds Tryd.pinned (.plain (OpenSpec.upto earFirstSpec)) earFirstUptoCard
end Rows
end Go.Proofs.YtedbdpaioikhgaaDoor
