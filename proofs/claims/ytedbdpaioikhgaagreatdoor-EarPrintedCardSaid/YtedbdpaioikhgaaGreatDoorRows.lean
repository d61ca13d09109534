/-
  NARROWER THAN 'FOR EVERY INPUT', by the rows' own cells (each row's printed sentence says how): EarChecks: laid · EarCodes: laid · EarFeatures: laid · EarDistances: laid · EarShorts: laid · EarWords: laid · EarMarks: laid · EarPrinted: laid.
  DERIVED. THE GIVEN ROWS OF THIS SEAT. 8 by the template 'for every input the law returns true; each argument reads behind the call as it read before'; 0 by the template 'total and deterministic' (their statements: YtedbdpaioikhgaaGreatDoorTotals.lean).
  GIVEN WITH THE SEED: the statements are not yours to turn. If you find one false, say at which input.
  Laid BY PROGRAM, IN A SANDBOX (cutbox-rows.mjs): the forced cells as the released guide's own fill.sh prints them over the translation 8f3a48708d41217f… (all of the seat's roots in one cut). By AI agents, Wed Nov 11 2026. No macro, syntax, notation, axiom, sorry.
-/
import Derived.Test.YtedbdpaioikhgaaGreatDoorChecked
import GoSem.Claim
import GoSem.ClaimJoined
import GoSem.ClaimMapViews
import Derived.JoinedTies
import Derived.KernelRfl
namespace Go.Proofs.YtedbdpaioikhgaaGreatDoor
/- THE CELL 'sum', in the pinned program and in every row, IS THE sha256 OF THE DUMP (.gsa) THAT YtedbdpaioikhgaaGreatDoorProg.lean LOADS. Nothing in Lean hashes anything: it is a label: what it is worth is what the hold of that sum in a sandbox is worth. -/
noncomputable def Tryz.pinned : Pinned := { name := "ytedbdpaioikhgaagreatdoor", sum := "8f3a48708d41217f983bbfcf00e246c513d7bc333c2fe7a2a04b21b36a19d871", checked := Tryz.checked }
namespace Rows
def none {H : Type} : Left H := { results := [], args := [] }

/- WHAT THE LISTED PACKAGE-LEVEL VARIABLES READ AS WHEN THE CALL BEGINS. Each datum BY PROGRAM (the guide's laid-datum.mjs) off the statement by which the dump's own 'gosem.cut.vars' lays the variable. In a bare row this is a premise. The card (YtedbdpaioikhgaaGreatDoorCards.lean) ties it to the program's text. -/
def laid_math_bits_deBruijn32tab {H : Type} : DataW H := .agg [.lit (.int .u8 0), .lit (.int .u8 1), .lit (.int .u8 28), .lit (.int .u8 2), .lit (.int .u8 29), .lit (.int .u8 14), .lit (.int .u8 24), .lit (.int .u8 3), .lit (.int .u8 30), .lit (.int .u8 22), .lit (.int .u8 20), .lit (.int .u8 15), .lit (.int .u8 25), .lit (.int .u8 17), .lit (.int .u8 4), .lit (.int .u8 8), .lit (.int .u8 31), .lit (.int .u8 27), .lit (.int .u8 13), .lit (.int .u8 23), .lit (.int .u8 21), .lit (.int .u8 19), .lit (.int .u8 16), .lit (.int .u8 7), .lit (.int .u8 26), .lit (.int .u8 12), .lit (.int .u8 18), .lit (.int .u8 6), .lit (.int .u8 11), .lit (.int .u8 5), .lit (.int .u8 10), .lit (.int .u8 9)]
def laid_math_bits_deBruijn64tab {H : Type} : DataW H := .agg [.lit (.int .u8 0), .lit (.int .u8 1), .lit (.int .u8 56), .lit (.int .u8 2), .lit (.int .u8 57), .lit (.int .u8 49), .lit (.int .u8 28), .lit (.int .u8 3), .lit (.int .u8 61), .lit (.int .u8 58), .lit (.int .u8 42), .lit (.int .u8 50), .lit (.int .u8 38), .lit (.int .u8 29), .lit (.int .u8 17), .lit (.int .u8 4), .lit (.int .u8 62), .lit (.int .u8 47), .lit (.int .u8 59), .lit (.int .u8 36), .lit (.int .u8 45), .lit (.int .u8 43), .lit (.int .u8 51), .lit (.int .u8 22), .lit (.int .u8 53), .lit (.int .u8 39), .lit (.int .u8 33), .lit (.int .u8 30), .lit (.int .u8 24), .lit (.int .u8 18), .lit (.int .u8 12), .lit (.int .u8 5), .lit (.int .u8 63), .lit (.int .u8 55), .lit (.int .u8 48), .lit (.int .u8 27), .lit (.int .u8 60), .lit (.int .u8 41), .lit (.int .u8 37), .lit (.int .u8 16), .lit (.int .u8 46), .lit (.int .u8 35), .lit (.int .u8 44), .lit (.int .u8 21), .lit (.int .u8 52), .lit (.int .u8 32), .lit (.int .u8 23), .lit (.int .u8 11), .lit (.int .u8 54), .lit (.int .u8 26), .lit (.int .u8 40), .lit (.int .u8 15), .lit (.int .u8 34), .lit (.int .u8 20), .lit (.int .u8 31), .lit (.int .u8 10), .lit (.int .u8 25), .lit (.int .u8 14), .lit (.int .u8 19), .lit (.int .u8 9), .lit (.int .u8 13), .lit (.int .u8 8), .lit (.int .u8 7), .lit (.int .u8 6)]
def laid_internal_strconv_uint64pow10 {H : Type} : DataW H := .agg [.lit (.int .u64 1), .lit (.int .u64 10), .lit (.int .u64 100), .lit (.int .u64 1000), .lit (.int .u64 10000), .lit (.int .u64 100000), .lit (.int .u64 1000000), .lit (.int .u64 10000000), .lit (.int .u64 100000000), .lit (.int .u64 1000000000), .lit (.int .u64 10000000000), .lit (.int .u64 100000000000), .lit (.int .u64 1000000000000), .lit (.int .u64 10000000000000), .lit (.int .u64 100000000000000), .lit (.int .u64 1000000000000000), .lit (.int .u64 10000000000000000), .lit (.int .u64 100000000000000000), .lit (.int .u64 1000000000000000000), .lit (.int .u64 10000000000000000000)]
def laid_earmark_ear_edgeCounts {H : Type} : DataW H := .agg [.lit (.int .i64 1), .lit (.int .i64 4), .lit (.int .i64 7), .lit (.int .i64 19), .lit (.int .i64 40)]

/-- 'earmarklaw01.EarChecks': WHATEVER THE INPUT: true; the input reads as it did. -/
def earChecksSpec : ChangeSpec := { name := "earChecks", fn := fun _ => fun
  | [d1, d2] => { results := [.lit (.bool true)], args := [d1, d2] }
  | _ => none }
def earChecksRow : OpenClaim := { program := "ytedbdpaioikhgaagreatdoor", sum := "8f3a48708d41217f983bbfcf00e246c513d7bc333c2fe7a2a04b21b36a19d871", func := "earmark/earmarklaw01.EarChecks", spec := "earChecks", inPlace := ["internal/abi.NoEscape", "internal/bytealg.MakeNoZero"], unfollowed := true, recurses := true, named := ["earmark/ear.edgeCounts", "internal/strconv.uint64pow10", "math/bits.deBruijn32tab", "math/bits.deBruijn64tab"], apart := false, laid := [("math/bits.deBruijn32tab", laid_math_bits_deBruijn32tab), ("math/bits.deBruijn64tab", laid_math_bits_deBruijn64tab), ("internal/strconv.uint64pow10", laid_internal_strconv_uint64pow10), ("earmark/ear.edgeCounts", laid_earmark_ear_edgeCounts)] }
def EarChecksSaid : Prop := earChecksRow.holds Tryz.pinned (OpenSpec.ofChange earChecksSpec)

/-- ITS FALSE NEIGHBOUR: 'it returns false'. Refute it at one input. -/
def earChecksWrong : ChangeSpec := { name := "earChecks", fn := fun _ => fun
  | [d1, d2] => { results := [.lit (.bool false)], args := [d1, d2] }
  | _ => none }
def EarChecksWrongFalsely : Prop := earChecksRow.holds Tryz.pinned (OpenSpec.ofChange earChecksWrong)

/-- 'earmarklaw01.EarCodes': WHATEVER THE INPUT: true; the input reads as it did. -/
def earCodesSpec : ChangeSpec := { name := "earCodes", fn := fun _ => fun
  | [d1, d2] => { results := [.lit (.bool true)], args := [d1, d2] }
  | _ => none }
def earCodesRow : OpenClaim := { program := "ytedbdpaioikhgaagreatdoor", sum := "8f3a48708d41217f983bbfcf00e246c513d7bc333c2fe7a2a04b21b36a19d871", func := "earmark/earmarklaw01.EarCodes", spec := "earCodes", inPlace := ["internal/abi.NoEscape", "internal/bytealg.MakeNoZero"], unfollowed := true, recurses := true, named := ["earmark/ear.edgeCounts", "internal/strconv.uint64pow10", "math/bits.deBruijn32tab", "math/bits.deBruijn64tab"], apart := false, laid := [("math/bits.deBruijn32tab", laid_math_bits_deBruijn32tab), ("math/bits.deBruijn64tab", laid_math_bits_deBruijn64tab), ("internal/strconv.uint64pow10", laid_internal_strconv_uint64pow10), ("earmark/ear.edgeCounts", laid_earmark_ear_edgeCounts)] }
def EarCodesSaid : Prop := earCodesRow.holds Tryz.pinned (OpenSpec.ofChange earCodesSpec)

/-- ITS FALSE NEIGHBOUR: 'it returns false'. Refute it at one input. -/
def earCodesWrong : ChangeSpec := { name := "earCodes", fn := fun _ => fun
  | [d1, d2] => { results := [.lit (.bool false)], args := [d1, d2] }
  | _ => none }
def EarCodesWrongFalsely : Prop := earCodesRow.holds Tryz.pinned (OpenSpec.ofChange earCodesWrong)

/-- 'earmarklaw01.EarFeatures': WHATEVER THE INPUT: true; the input reads as it did. -/
def earFeaturesSpec : ChangeSpec := { name := "earFeatures", fn := fun _ => fun
  | [d1, d2] => { results := [.lit (.bool true)], args := [d1, d2] }
  | _ => none }
def earFeaturesRow : OpenClaim := { program := "ytedbdpaioikhgaagreatdoor", sum := "8f3a48708d41217f983bbfcf00e246c513d7bc333c2fe7a2a04b21b36a19d871", func := "earmark/earmarklaw01.EarFeatures", spec := "earFeatures", inPlace := ["internal/abi.NoEscape", "internal/bytealg.MakeNoZero"], unfollowed := true, recurses := true, named := ["earmark/ear.edgeCounts", "internal/strconv.uint64pow10", "math/bits.deBruijn32tab", "math/bits.deBruijn64tab"], apart := false, laid := [("math/bits.deBruijn32tab", laid_math_bits_deBruijn32tab), ("math/bits.deBruijn64tab", laid_math_bits_deBruijn64tab), ("internal/strconv.uint64pow10", laid_internal_strconv_uint64pow10), ("earmark/ear.edgeCounts", laid_earmark_ear_edgeCounts)] }
def EarFeaturesSaid : Prop := earFeaturesRow.holds Tryz.pinned (OpenSpec.ofChange earFeaturesSpec)

/-- ITS FALSE NEIGHBOUR: 'it returns false'. Refute it at one input. -/
def earFeaturesWrong : ChangeSpec := { name := "earFeatures", fn := fun _ => fun
  | [d1, d2] => { results := [.lit (.bool false)], args := [d1, d2] }
  | _ => none }
def EarFeaturesWrongFalsely : Prop := earFeaturesRow.holds Tryz.pinned (OpenSpec.ofChange earFeaturesWrong)

/-- 'earmarklaw01.EarDistances': WHATEVER THE INPUT: true; the input reads as it did. -/
def earDistancesSpec : ChangeSpec := { name := "earDistances", fn := fun _ => fun
  | [d1, d2] => { results := [.lit (.bool true)], args := [d1, d2] }
  | _ => none }
def earDistancesRow : OpenClaim := { program := "ytedbdpaioikhgaagreatdoor", sum := "8f3a48708d41217f983bbfcf00e246c513d7bc333c2fe7a2a04b21b36a19d871", func := "earmark/earmarklaw01.EarDistances", spec := "earDistances", inPlace := ["internal/abi.NoEscape", "internal/bytealg.MakeNoZero"], unfollowed := true, recurses := true, named := ["earmark/ear.edgeCounts", "internal/strconv.uint64pow10", "math/bits.deBruijn32tab", "math/bits.deBruijn64tab"], apart := false, laid := [("math/bits.deBruijn32tab", laid_math_bits_deBruijn32tab), ("math/bits.deBruijn64tab", laid_math_bits_deBruijn64tab), ("internal/strconv.uint64pow10", laid_internal_strconv_uint64pow10), ("earmark/ear.edgeCounts", laid_earmark_ear_edgeCounts)] }
def EarDistancesSaid : Prop := earDistancesRow.holds Tryz.pinned (OpenSpec.ofChange earDistancesSpec)

/-- ITS FALSE NEIGHBOUR: 'it returns false'. Refute it at one input. -/
def earDistancesWrong : ChangeSpec := { name := "earDistances", fn := fun _ => fun
  | [d1, d2] => { results := [.lit (.bool false)], args := [d1, d2] }
  | _ => none }
def EarDistancesWrongFalsely : Prop := earDistancesRow.holds Tryz.pinned (OpenSpec.ofChange earDistancesWrong)

/-- 'earmarklaw01.EarShorts': WHATEVER THE INPUT: true; the input reads as it did. -/
def earShortsSpec : ChangeSpec := { name := "earShorts", fn := fun _ => fun
  | [d1, d2] => { results := [.lit (.bool true)], args := [d1, d2] }
  | _ => none }
def earShortsRow : OpenClaim := { program := "ytedbdpaioikhgaagreatdoor", sum := "8f3a48708d41217f983bbfcf00e246c513d7bc333c2fe7a2a04b21b36a19d871", func := "earmark/earmarklaw01.EarShorts", spec := "earShorts", inPlace := ["internal/abi.NoEscape", "internal/bytealg.MakeNoZero", "internal/bytealg.IndexByteString"], unfollowed := true, recurses := true, named := ["earmark/ear.edgeCounts", "internal/strconv.uint64pow10", "math/bits.deBruijn32tab", "math/bits.deBruijn64tab"], apart := false, laid := [("math/bits.deBruijn32tab", laid_math_bits_deBruijn32tab), ("math/bits.deBruijn64tab", laid_math_bits_deBruijn64tab), ("internal/strconv.uint64pow10", laid_internal_strconv_uint64pow10), ("earmark/ear.edgeCounts", laid_earmark_ear_edgeCounts)] }
def EarShortsSaid : Prop := earShortsRow.holds Tryz.pinned (OpenSpec.ofChange earShortsSpec)

/-- ITS FALSE NEIGHBOUR: 'it returns false'. Refute it at one input. -/
def earShortsWrong : ChangeSpec := { name := "earShorts", fn := fun _ => fun
  | [d1, d2] => { results := [.lit (.bool false)], args := [d1, d2] }
  | _ => none }
def EarShortsWrongFalsely : Prop := earShortsRow.holds Tryz.pinned (OpenSpec.ofChange earShortsWrong)

/-- 'earmarklaw01.EarWords': WHATEVER THE INPUT: true; the input reads as it did. -/
def earWordsSpec : ChangeSpec := { name := "earWords", fn := fun _ => fun
  | [d1, d2] => { results := [.lit (.bool true)], args := [d1, d2] }
  | _ => none }
def earWordsRow : OpenClaim := { program := "ytedbdpaioikhgaagreatdoor", sum := "8f3a48708d41217f983bbfcf00e246c513d7bc333c2fe7a2a04b21b36a19d871", func := "earmark/earmarklaw01.EarWords", spec := "earWords", inPlace := ["internal/abi.NoEscape", "internal/bytealg.MakeNoZero"], unfollowed := true, recurses := true, named := ["earmark/ear.edgeCounts", "internal/strconv.uint64pow10", "math/bits.deBruijn32tab", "math/bits.deBruijn64tab"], apart := false, laid := [("math/bits.deBruijn32tab", laid_math_bits_deBruijn32tab), ("math/bits.deBruijn64tab", laid_math_bits_deBruijn64tab), ("internal/strconv.uint64pow10", laid_internal_strconv_uint64pow10), ("earmark/ear.edgeCounts", laid_earmark_ear_edgeCounts)] }
def EarWordsSaid : Prop := earWordsRow.holds Tryz.pinned (OpenSpec.ofChange earWordsSpec)

/-- ITS FALSE NEIGHBOUR: 'it returns false'. Refute it at one input. -/
def earWordsWrong : ChangeSpec := { name := "earWords", fn := fun _ => fun
  | [d1, d2] => { results := [.lit (.bool false)], args := [d1, d2] }
  | _ => none }
def EarWordsWrongFalsely : Prop := earWordsRow.holds Tryz.pinned (OpenSpec.ofChange earWordsWrong)

/-- 'earmarklaw01.EarMarks': WHATEVER THE INPUT: true; the input reads as it did. -/
def earMarksSpec : ChangeSpec := { name := "earMarks", fn := fun _ => fun
  | [d1, d2] => { results := [.lit (.bool true)], args := [d1, d2] }
  | _ => none }
def earMarksRow : OpenClaim := { program := "ytedbdpaioikhgaagreatdoor", sum := "8f3a48708d41217f983bbfcf00e246c513d7bc333c2fe7a2a04b21b36a19d871", func := "earmark/earmarklaw01.EarMarks", spec := "earMarks", inPlace := ["internal/abi.NoEscape", "internal/bytealg.MakeNoZero"], unfollowed := true, recurses := true, named := ["earmark/ear.edgeCounts", "internal/strconv.uint64pow10", "math/bits.deBruijn32tab", "math/bits.deBruijn64tab"], apart := false, laid := [("math/bits.deBruijn32tab", laid_math_bits_deBruijn32tab), ("math/bits.deBruijn64tab", laid_math_bits_deBruijn64tab), ("internal/strconv.uint64pow10", laid_internal_strconv_uint64pow10), ("earmark/ear.edgeCounts", laid_earmark_ear_edgeCounts)] }
def EarMarksSaid : Prop := earMarksRow.holds Tryz.pinned (OpenSpec.ofChange earMarksSpec)

/-- ITS FALSE NEIGHBOUR: 'it returns false'. Refute it at one input. -/
def earMarksWrong : ChangeSpec := { name := "earMarks", fn := fun _ => fun
  | [d1, d2] => { results := [.lit (.bool false)], args := [d1, d2] }
  | _ => none }
def EarMarksWrongFalsely : Prop := earMarksRow.holds Tryz.pinned (OpenSpec.ofChange earMarksWrong)

/-- 'earmarklaw01.EarPrinted': WHATEVER THE INPUT: true; the input reads as it did. -/
def earPrintedSpec : ChangeSpec := { name := "earPrinted", fn := fun _ => fun
  | [d1, d2, d3, d4] => { results := [.lit (.bool true)], args := [d1, d2, d3, d4] }
  | _ => none }
def earPrintedRow : OpenClaim := { program := "ytedbdpaioikhgaagreatdoor", sum := "8f3a48708d41217f983bbfcf00e246c513d7bc333c2fe7a2a04b21b36a19d871", func := "earmark/earmarklaw01.EarPrinted", spec := "earPrinted", inPlace := ["internal/abi.NoEscape", "internal/bytealg.MakeNoZero", "internal/bytealg.IndexByteString"], unfollowed := true, recurses := true, named := ["earmark/ear.edgeCounts", "internal/strconv.uint64pow10", "math/bits.deBruijn32tab", "math/bits.deBruijn64tab"], apart := false, laid := [("math/bits.deBruijn32tab", laid_math_bits_deBruijn32tab), ("math/bits.deBruijn64tab", laid_math_bits_deBruijn64tab), ("internal/strconv.uint64pow10", laid_internal_strconv_uint64pow10), ("earmark/ear.edgeCounts", laid_earmark_ear_edgeCounts)] }
def EarPrintedSaid : Prop := earPrintedRow.holds Tryz.pinned (OpenSpec.ofChange earPrintedSpec)

/-- ITS FALSE NEIGHBOUR: 'it returns false'. Refute it at one input. -/
def earPrintedWrong : ChangeSpec := { name := "earPrinted", fn := fun _ => fun
  | [d1, d2, d3, d4] => { results := [.lit (.bool false)], args := [d1, d2, d3, d4] }
  | _ => none }
def EarPrintedWrongFalsely : Prop := earPrintedRow.holds Tryz.pinned (OpenSpec.ofChange earPrintedWrong)

/- THE SECOND FORM. 'bulk': how many values and letters a reading holds, each counted each time it is reached (what is shared counts as often as it is met; a slice's spare places count too). A statement '..UptoSaid' is the law's where the arguments, and the package variables that the reading takes, are together of bulk at most 1048576: NARROWER than '..Said'. Prove '..Said' where nothing that the law and all that it calls make is longer than what came in: it says more and counts as full. Else prove '..UptoSaid'. A law counts once. -/
mutual
def uptoBulk {H : Type} : DataW H → Nat
  | .lit (.string bytes) => bytes.length + 1
  | .lit _ => 1
  | .nil => 1
  | .ptr d => uptoBulk d + 1
  | .slice elems spare => uptoBulkAll elems + uptoBulkAll spare + 1
  | .agg parts => uptoBulkAll parts + 1
  | .iface _ d => uptoBulk d + 1
  | .map entries => uptoBulkEntries entries + 1
  | .held _ => 1
def uptoBulkAll {H : Type} : List (DataW H) → Nat
  | [] => 0
  | d :: r => uptoBulk d + uptoBulkAll r
def uptoBulkEntries {H : Type} : List (Lit × DataW H) → Nat
  | [] => 0
  | x :: r => uptoBulkEntry x + uptoBulkEntries r
def uptoBulkEntry {H : Type} : Lit × DataW H → Nat
  | (.string bytes, d) => bytes.length + uptoBulk d + 1
  | (_, d) => uptoBulk d + 1
 end
def uptoSmall : (H : Type) → List (DataW H) → Bool := fun _ ds => decide (uptoBulkAll ds ≤ 1048576)
def OpenSpec.upto (s : _root_.Go.ChangeSpec) : _root_.Go.OpenSpec := { _root_.Go.OpenSpec.ofChange s with cond := some uptoSmall }

/-- 'earmarklaw01.EarChecks', WHERE WHAT IT READS IS OF BULK AT MOST 1048576: true; the input reads as it did. -/
def earChecksUptoRow : OpenClaim := { program := "ytedbdpaioikhgaagreatdoor", sum := "8f3a48708d41217f983bbfcf00e246c513d7bc333c2fe7a2a04b21b36a19d871", func := "earmark/earmarklaw01.EarChecks", spec := "earChecks", inPlace := ["internal/abi.NoEscape", "internal/bytealg.MakeNoZero"], unfollowed := true, recurses := true, named := ["earmark/ear.edgeCounts", "internal/strconv.uint64pow10", "math/bits.deBruijn32tab", "math/bits.deBruijn64tab"], apart := false, laid := [("math/bits.deBruijn32tab", laid_math_bits_deBruijn32tab), ("math/bits.deBruijn64tab", laid_math_bits_deBruijn64tab), ("internal/strconv.uint64pow10", laid_internal_strconv_uint64pow10), ("earmark/ear.edgeCounts", laid_earmark_ear_edgeCounts)], narrowed := true }
def EarChecksUptoSaid : Prop := earChecksUptoRow.holds Tryz.pinned (OpenSpec.upto earChecksSpec)

/-- 'earmarklaw01.EarCodes', WHERE WHAT IT READS IS OF BULK AT MOST 1048576: true; the input reads as it did. -/
def earCodesUptoRow : OpenClaim := { program := "ytedbdpaioikhgaagreatdoor", sum := "8f3a48708d41217f983bbfcf00e246c513d7bc333c2fe7a2a04b21b36a19d871", func := "earmark/earmarklaw01.EarCodes", spec := "earCodes", inPlace := ["internal/abi.NoEscape", "internal/bytealg.MakeNoZero"], unfollowed := true, recurses := true, named := ["earmark/ear.edgeCounts", "internal/strconv.uint64pow10", "math/bits.deBruijn32tab", "math/bits.deBruijn64tab"], apart := false, laid := [("math/bits.deBruijn32tab", laid_math_bits_deBruijn32tab), ("math/bits.deBruijn64tab", laid_math_bits_deBruijn64tab), ("internal/strconv.uint64pow10", laid_internal_strconv_uint64pow10), ("earmark/ear.edgeCounts", laid_earmark_ear_edgeCounts)], narrowed := true }
def EarCodesUptoSaid : Prop := earCodesUptoRow.holds Tryz.pinned (OpenSpec.upto earCodesSpec)

/-- 'earmarklaw01.EarFeatures', WHERE WHAT IT READS IS OF BULK AT MOST 1048576: true; the input reads as it did. -/
def earFeaturesUptoRow : OpenClaim := { program := "ytedbdpaioikhgaagreatdoor", sum := "8f3a48708d41217f983bbfcf00e246c513d7bc333c2fe7a2a04b21b36a19d871", func := "earmark/earmarklaw01.EarFeatures", spec := "earFeatures", inPlace := ["internal/abi.NoEscape", "internal/bytealg.MakeNoZero"], unfollowed := true, recurses := true, named := ["earmark/ear.edgeCounts", "internal/strconv.uint64pow10", "math/bits.deBruijn32tab", "math/bits.deBruijn64tab"], apart := false, laid := [("math/bits.deBruijn32tab", laid_math_bits_deBruijn32tab), ("math/bits.deBruijn64tab", laid_math_bits_deBruijn64tab), ("internal/strconv.uint64pow10", laid_internal_strconv_uint64pow10), ("earmark/ear.edgeCounts", laid_earmark_ear_edgeCounts)], narrowed := true }
def EarFeaturesUptoSaid : Prop := earFeaturesUptoRow.holds Tryz.pinned (OpenSpec.upto earFeaturesSpec)

/-- 'earmarklaw01.EarDistances', WHERE WHAT IT READS IS OF BULK AT MOST 1048576: true; the input reads as it did. -/
def earDistancesUptoRow : OpenClaim := { program := "ytedbdpaioikhgaagreatdoor", sum := "8f3a48708d41217f983bbfcf00e246c513d7bc333c2fe7a2a04b21b36a19d871", func := "earmark/earmarklaw01.EarDistances", spec := "earDistances", inPlace := ["internal/abi.NoEscape", "internal/bytealg.MakeNoZero"], unfollowed := true, recurses := true, named := ["earmark/ear.edgeCounts", "internal/strconv.uint64pow10", "math/bits.deBruijn32tab", "math/bits.deBruijn64tab"], apart := false, laid := [("math/bits.deBruijn32tab", laid_math_bits_deBruijn32tab), ("math/bits.deBruijn64tab", laid_math_bits_deBruijn64tab), ("internal/strconv.uint64pow10", laid_internal_strconv_uint64pow10), ("earmark/ear.edgeCounts", laid_earmark_ear_edgeCounts)], narrowed := true }
def EarDistancesUptoSaid : Prop := earDistancesUptoRow.holds Tryz.pinned (OpenSpec.upto earDistancesSpec)

/-- 'earmarklaw01.EarShorts', WHERE WHAT IT READS IS OF BULK AT MOST 1048576: true; the input reads as it did. -/
def earShortsUptoRow : OpenClaim := { program := "ytedbdpaioikhgaagreatdoor", sum := "8f3a48708d41217f983bbfcf00e246c513d7bc333c2fe7a2a04b21b36a19d871", func := "earmark/earmarklaw01.EarShorts", spec := "earShorts", inPlace := ["internal/abi.NoEscape", "internal/bytealg.MakeNoZero", "internal/bytealg.IndexByteString"], unfollowed := true, recurses := true, named := ["earmark/ear.edgeCounts", "internal/strconv.uint64pow10", "math/bits.deBruijn32tab", "math/bits.deBruijn64tab"], apart := false, laid := [("math/bits.deBruijn32tab", laid_math_bits_deBruijn32tab), ("math/bits.deBruijn64tab", laid_math_bits_deBruijn64tab), ("internal/strconv.uint64pow10", laid_internal_strconv_uint64pow10), ("earmark/ear.edgeCounts", laid_earmark_ear_edgeCounts)], narrowed := true }
def EarShortsUptoSaid : Prop := earShortsUptoRow.holds Tryz.pinned (OpenSpec.upto earShortsSpec)

/-- 'earmarklaw01.EarWords', WHERE WHAT IT READS IS OF BULK AT MOST 1048576: true; the input reads as it did. -/
def earWordsUptoRow : OpenClaim := { program := "ytedbdpaioikhgaagreatdoor", sum := "8f3a48708d41217f983bbfcf00e246c513d7bc333c2fe7a2a04b21b36a19d871", func := "earmark/earmarklaw01.EarWords", spec := "earWords", inPlace := ["internal/abi.NoEscape", "internal/bytealg.MakeNoZero"], unfollowed := true, recurses := true, named := ["earmark/ear.edgeCounts", "internal/strconv.uint64pow10", "math/bits.deBruijn32tab", "math/bits.deBruijn64tab"], apart := false, laid := [("math/bits.deBruijn32tab", laid_math_bits_deBruijn32tab), ("math/bits.deBruijn64tab", laid_math_bits_deBruijn64tab), ("internal/strconv.uint64pow10", laid_internal_strconv_uint64pow10), ("earmark/ear.edgeCounts", laid_earmark_ear_edgeCounts)], narrowed := true }
def EarWordsUptoSaid : Prop := earWordsUptoRow.holds Tryz.pinned (OpenSpec.upto earWordsSpec)

/-- 'earmarklaw01.EarMarks', WHERE WHAT IT READS IS OF BULK AT MOST 1048576: true; the input reads as it did. -/
def earMarksUptoRow : OpenClaim := { program := "ytedbdpaioikhgaagreatdoor", sum := "8f3a48708d41217f983bbfcf00e246c513d7bc333c2fe7a2a04b21b36a19d871", func := "earmark/earmarklaw01.EarMarks", spec := "earMarks", inPlace := ["internal/abi.NoEscape", "internal/bytealg.MakeNoZero"], unfollowed := true, recurses := true, named := ["earmark/ear.edgeCounts", "internal/strconv.uint64pow10", "math/bits.deBruijn32tab", "math/bits.deBruijn64tab"], apart := false, laid := [("math/bits.deBruijn32tab", laid_math_bits_deBruijn32tab), ("math/bits.deBruijn64tab", laid_math_bits_deBruijn64tab), ("internal/strconv.uint64pow10", laid_internal_strconv_uint64pow10), ("earmark/ear.edgeCounts", laid_earmark_ear_edgeCounts)], narrowed := true }
def EarMarksUptoSaid : Prop := earMarksUptoRow.holds Tryz.pinned (OpenSpec.upto earMarksSpec)

/-- 'earmarklaw01.EarPrinted', WHERE WHAT IT READS IS OF BULK AT MOST 1048576: true; the input reads as it did. -/
def earPrintedUptoRow : OpenClaim := { program := "ytedbdpaioikhgaagreatdoor", sum := "8f3a48708d41217f983bbfcf00e246c513d7bc333c2fe7a2a04b21b36a19d871", func := "earmark/earmarklaw01.EarPrinted", spec := "earPrinted", inPlace := ["internal/abi.NoEscape", "internal/bytealg.MakeNoZero", "internal/bytealg.IndexByteString"], unfollowed := true, recurses := true, named := ["earmark/ear.edgeCounts", "internal/strconv.uint64pow10", "math/bits.deBruijn32tab", "math/bits.deBruijn64tab"], apart := false, laid := [("math/bits.deBruijn32tab", laid_math_bits_deBruijn32tab), ("math/bits.deBruijn64tab", laid_math_bits_deBruijn64tab), ("internal/strconv.uint64pow10", laid_internal_strconv_uint64pow10), ("earmark/ear.edgeCounts", laid_earmark_ear_edgeCounts)], narrowed := true }
def EarPrintedUptoSaid : Prop := earPrintedUptoRow.holds Tryz.pinned (OpenSpec.upto earPrintedSpec)

end Rows
end Go.Proofs.YtedbdpaioikhgaaGreatDoor
