/-
  NARROWER THAN 'FOR EVERY INPUT', by the rows' own cells (each row's printed sentence says how): EarBijection: laid · EarOrder: laid · EarBuilt: laid · EarMetric: laid · EarHome: laid · EarMirrors: laid · EarFirst: laid.
  DERIVED. THE GIVEN ROWS OF THIS SEAT. 7 by the template 'for every input the law returns true; each argument reads behind the call as it read before'; 0 by the template 'total and deterministic' (their statements: YtedbdpaioikhgaaDoorTotals.lean).
  GIVEN WITH THE SEED: the statements are not yours to turn. If you find one false, say at which input.
  Laid BY PROGRAM, IN A SANDBOX (cutbox-rows.mjs): the forced cells as the released guide's own fill.sh prints them over the translation 40b4e5d539a413ac… (all of the seat's roots in one cut). By AI agents, Wed Nov 11 2026. No macro, syntax, notation, axiom, sorry.
-/
import Derived.Test.YtedbdpaioikhgaaDoorChecked
import GoSem.Claim
import GoSem.ClaimJoined
import GoSem.ClaimMapViews
import Derived.JoinedTies
import Derived.KernelRfl
namespace Go.Proofs.YtedbdpaioikhgaaDoor
/- THE CELL 'sum', in the pinned program and in every row, IS THE sha256 OF THE DUMP (.gsa) THAT YtedbdpaioikhgaaDoorProg.lean LOADS. Nothing in Lean hashes anything: it is a label: what it is worth is what the hold of that sum in a sandbox is worth. -/
noncomputable def Tryd.pinned : Pinned := { name := "ytedbdpaioikhgaadoor", sum := "40b4e5d539a413acf9eee9b2b3fe24e204bf7fccfe8294c442fc422ecd0b6f8d", checked := Tryd.checked }
namespace Rows
def none {H : Type} : Left H := { results := [], args := [] }

/- WHAT THE LISTED PACKAGE-LEVEL VARIABLES READ AS WHEN THE CALL BEGINS. Each datum BY PROGRAM (the guide's laid-datum.mjs) off the statement by which the dump's own 'gosem.cut.vars' lays the variable. In a bare row this is a premise. The card (YtedbdpaioikhgaaDoorCards.lean) ties it to the program's text. -/
def laid_math_bits_deBruijn32tab {H : Type} : DataW H := .agg [.lit (.int .u8 0), .lit (.int .u8 1), .lit (.int .u8 28), .lit (.int .u8 2), .lit (.int .u8 29), .lit (.int .u8 14), .lit (.int .u8 24), .lit (.int .u8 3), .lit (.int .u8 30), .lit (.int .u8 22), .lit (.int .u8 20), .lit (.int .u8 15), .lit (.int .u8 25), .lit (.int .u8 17), .lit (.int .u8 4), .lit (.int .u8 8), .lit (.int .u8 31), .lit (.int .u8 27), .lit (.int .u8 13), .lit (.int .u8 23), .lit (.int .u8 21), .lit (.int .u8 19), .lit (.int .u8 16), .lit (.int .u8 7), .lit (.int .u8 26), .lit (.int .u8 12), .lit (.int .u8 18), .lit (.int .u8 6), .lit (.int .u8 11), .lit (.int .u8 5), .lit (.int .u8 10), .lit (.int .u8 9)]
def laid_math_bits_deBruijn64tab {H : Type} : DataW H := .agg [.lit (.int .u8 0), .lit (.int .u8 1), .lit (.int .u8 56), .lit (.int .u8 2), .lit (.int .u8 57), .lit (.int .u8 49), .lit (.int .u8 28), .lit (.int .u8 3), .lit (.int .u8 61), .lit (.int .u8 58), .lit (.int .u8 42), .lit (.int .u8 50), .lit (.int .u8 38), .lit (.int .u8 29), .lit (.int .u8 17), .lit (.int .u8 4), .lit (.int .u8 62), .lit (.int .u8 47), .lit (.int .u8 59), .lit (.int .u8 36), .lit (.int .u8 45), .lit (.int .u8 43), .lit (.int .u8 51), .lit (.int .u8 22), .lit (.int .u8 53), .lit (.int .u8 39), .lit (.int .u8 33), .lit (.int .u8 30), .lit (.int .u8 24), .lit (.int .u8 18), .lit (.int .u8 12), .lit (.int .u8 5), .lit (.int .u8 63), .lit (.int .u8 55), .lit (.int .u8 48), .lit (.int .u8 27), .lit (.int .u8 60), .lit (.int .u8 41), .lit (.int .u8 37), .lit (.int .u8 16), .lit (.int .u8 46), .lit (.int .u8 35), .lit (.int .u8 44), .lit (.int .u8 21), .lit (.int .u8 52), .lit (.int .u8 32), .lit (.int .u8 23), .lit (.int .u8 11), .lit (.int .u8 54), .lit (.int .u8 26), .lit (.int .u8 40), .lit (.int .u8 15), .lit (.int .u8 34), .lit (.int .u8 20), .lit (.int .u8 31), .lit (.int .u8 10), .lit (.int .u8 25), .lit (.int .u8 14), .lit (.int .u8 19), .lit (.int .u8 9), .lit (.int .u8 13), .lit (.int .u8 8), .lit (.int .u8 7), .lit (.int .u8 6)]
def laid_internal_strconv_uint64pow10 {H : Type} : DataW H := .agg [.lit (.int .u64 1), .lit (.int .u64 10), .lit (.int .u64 100), .lit (.int .u64 1000), .lit (.int .u64 10000), .lit (.int .u64 100000), .lit (.int .u64 1000000), .lit (.int .u64 10000000), .lit (.int .u64 100000000), .lit (.int .u64 1000000000), .lit (.int .u64 10000000000), .lit (.int .u64 100000000000), .lit (.int .u64 1000000000000), .lit (.int .u64 10000000000000), .lit (.int .u64 100000000000000), .lit (.int .u64 1000000000000000), .lit (.int .u64 10000000000000000), .lit (.int .u64 100000000000000000), .lit (.int .u64 1000000000000000000), .lit (.int .u64 10000000000000000000)]
def laid_earmark_ear_edgeCounts {H : Type} : DataW H := .agg [.lit (.int .i64 1), .lit (.int .i64 4), .lit (.int .i64 7), .lit (.int .i64 19), .lit (.int .i64 40)]

/-- 'earmarklaw01.EarBijection': WHATEVER THE INPUT: true; the input reads as it did. -/
def earBijectionSpec : ChangeSpec := { name := "earBijection", fn := fun _ => fun
  | [d1, d2, d3] => { results := [.lit (.bool true)], args := [d1, d2, d3] }
  | _ => none }
def earBijectionRow : OpenClaim := { program := "ytedbdpaioikhgaadoor", sum := "40b4e5d539a413acf9eee9b2b3fe24e204bf7fccfe8294c442fc422ecd0b6f8d", func := "earmark/earmarklaw01.EarBijection", spec := "earBijection", inPlace := ["internal/abi.NoEscape", "internal/bytealg.MakeNoZero"], unfollowed := true, recurses := true, named := ["earmark/ear.edgeCounts", "internal/strconv.uint64pow10", "math/bits.deBruijn32tab", "math/bits.deBruijn64tab"], apart := false, laid := [("math/bits.deBruijn32tab", laid_math_bits_deBruijn32tab), ("math/bits.deBruijn64tab", laid_math_bits_deBruijn64tab), ("internal/strconv.uint64pow10", laid_internal_strconv_uint64pow10), ("earmark/ear.edgeCounts", laid_earmark_ear_edgeCounts)] }
def EarBijectionSaid : Prop := earBijectionRow.holds Tryd.pinned (OpenSpec.ofChange earBijectionSpec)

/-- ITS FALSE NEIGHBOUR: 'it returns false'. Refute it at one input. -/
def earBijectionWrong : ChangeSpec := { name := "earBijection", fn := fun _ => fun
  | [d1, d2, d3] => { results := [.lit (.bool false)], args := [d1, d2, d3] }
  | _ => none }
def EarBijectionWrongFalsely : Prop := earBijectionRow.holds Tryd.pinned (OpenSpec.ofChange earBijectionWrong)

/-- 'earmarklaw01.EarOrder': WHATEVER THE INPUT: true; the input reads as it did. -/
def earOrderSpec : ChangeSpec := { name := "earOrder", fn := fun _ => fun
  | [d1, d2, d3] => { results := [.lit (.bool true)], args := [d1, d2, d3] }
  | _ => none }
def earOrderRow : OpenClaim := { program := "ytedbdpaioikhgaadoor", sum := "40b4e5d539a413acf9eee9b2b3fe24e204bf7fccfe8294c442fc422ecd0b6f8d", func := "earmark/earmarklaw01.EarOrder", spec := "earOrder", inPlace := ["internal/abi.NoEscape", "internal/bytealg.MakeNoZero"], unfollowed := true, recurses := true, named := ["earmark/ear.edgeCounts", "internal/strconv.uint64pow10", "math/bits.deBruijn32tab", "math/bits.deBruijn64tab"], apart := false, laid := [("math/bits.deBruijn32tab", laid_math_bits_deBruijn32tab), ("math/bits.deBruijn64tab", laid_math_bits_deBruijn64tab), ("internal/strconv.uint64pow10", laid_internal_strconv_uint64pow10), ("earmark/ear.edgeCounts", laid_earmark_ear_edgeCounts)] }
def EarOrderSaid : Prop := earOrderRow.holds Tryd.pinned (OpenSpec.ofChange earOrderSpec)

/-- ITS FALSE NEIGHBOUR: 'it returns false'. Refute it at one input. -/
def earOrderWrong : ChangeSpec := { name := "earOrder", fn := fun _ => fun
  | [d1, d2, d3] => { results := [.lit (.bool false)], args := [d1, d2, d3] }
  | _ => none }
def EarOrderWrongFalsely : Prop := earOrderRow.holds Tryd.pinned (OpenSpec.ofChange earOrderWrong)

/-- 'earmarklaw01.EarBuilt': WHATEVER THE INPUT: true; the input reads as it did. -/
def earBuiltSpec : ChangeSpec := { name := "earBuilt", fn := fun _ => fun
  | [d1, d2, d3] => { results := [.lit (.bool true)], args := [d1, d2, d3] }
  | _ => none }
def earBuiltRow : OpenClaim := { program := "ytedbdpaioikhgaadoor", sum := "40b4e5d539a413acf9eee9b2b3fe24e204bf7fccfe8294c442fc422ecd0b6f8d", func := "earmark/earmarklaw01.EarBuilt", spec := "earBuilt", inPlace := ["internal/abi.NoEscape", "internal/bytealg.MakeNoZero"], unfollowed := true, recurses := true, named := ["earmark/ear.edgeCounts", "internal/strconv.uint64pow10", "math/bits.deBruijn32tab", "math/bits.deBruijn64tab"], apart := false, laid := [("math/bits.deBruijn32tab", laid_math_bits_deBruijn32tab), ("math/bits.deBruijn64tab", laid_math_bits_deBruijn64tab), ("internal/strconv.uint64pow10", laid_internal_strconv_uint64pow10), ("earmark/ear.edgeCounts", laid_earmark_ear_edgeCounts)] }
def EarBuiltSaid : Prop := earBuiltRow.holds Tryd.pinned (OpenSpec.ofChange earBuiltSpec)

/-- ITS FALSE NEIGHBOUR: 'it returns false'. Refute it at one input. -/
def earBuiltWrong : ChangeSpec := { name := "earBuilt", fn := fun _ => fun
  | [d1, d2, d3] => { results := [.lit (.bool false)], args := [d1, d2, d3] }
  | _ => none }
def EarBuiltWrongFalsely : Prop := earBuiltRow.holds Tryd.pinned (OpenSpec.ofChange earBuiltWrong)

/-- 'earmarklaw01.EarMetric': WHATEVER THE INPUT: true; the input reads as it did. -/
def earMetricSpec : ChangeSpec := { name := "earMetric", fn := fun _ => fun
  | [d1, d2, d3] => { results := [.lit (.bool true)], args := [d1, d2, d3] }
  | _ => none }
def earMetricRow : OpenClaim := { program := "ytedbdpaioikhgaadoor", sum := "40b4e5d539a413acf9eee9b2b3fe24e204bf7fccfe8294c442fc422ecd0b6f8d", func := "earmark/earmarklaw01.EarMetric", spec := "earMetric", inPlace := ["internal/abi.NoEscape", "internal/bytealg.MakeNoZero"], unfollowed := true, recurses := true, named := ["earmark/ear.edgeCounts", "internal/strconv.uint64pow10", "math/bits.deBruijn32tab", "math/bits.deBruijn64tab"], apart := false, laid := [("math/bits.deBruijn32tab", laid_math_bits_deBruijn32tab), ("math/bits.deBruijn64tab", laid_math_bits_deBruijn64tab), ("internal/strconv.uint64pow10", laid_internal_strconv_uint64pow10), ("earmark/ear.edgeCounts", laid_earmark_ear_edgeCounts)] }
def EarMetricSaid : Prop := earMetricRow.holds Tryd.pinned (OpenSpec.ofChange earMetricSpec)

/-- ITS FALSE NEIGHBOUR: 'it returns false'. Refute it at one input. -/
def earMetricWrong : ChangeSpec := { name := "earMetric", fn := fun _ => fun
  | [d1, d2, d3] => { results := [.lit (.bool false)], args := [d1, d2, d3] }
  | _ => none }
def EarMetricWrongFalsely : Prop := earMetricRow.holds Tryd.pinned (OpenSpec.ofChange earMetricWrong)

/-- 'earmarklaw01.EarHome': WHATEVER THE INPUT: true; the input reads as it did. -/
def earHomeSpec : ChangeSpec := { name := "earHome", fn := fun _ => fun
  | [d1, d2] => { results := [.lit (.bool true)], args := [d1, d2] }
  | _ => none }
def earHomeRow : OpenClaim := { program := "ytedbdpaioikhgaadoor", sum := "40b4e5d539a413acf9eee9b2b3fe24e204bf7fccfe8294c442fc422ecd0b6f8d", func := "earmark/earmarklaw01.EarHome", spec := "earHome", inPlace := ["internal/abi.NoEscape", "internal/bytealg.MakeNoZero"], unfollowed := true, recurses := true, named := ["earmark/ear.edgeCounts", "internal/strconv.uint64pow10", "math/bits.deBruijn32tab", "math/bits.deBruijn64tab"], apart := false, laid := [("math/bits.deBruijn32tab", laid_math_bits_deBruijn32tab), ("math/bits.deBruijn64tab", laid_math_bits_deBruijn64tab), ("internal/strconv.uint64pow10", laid_internal_strconv_uint64pow10), ("earmark/ear.edgeCounts", laid_earmark_ear_edgeCounts)] }
def EarHomeSaid : Prop := earHomeRow.holds Tryd.pinned (OpenSpec.ofChange earHomeSpec)

/-- ITS FALSE NEIGHBOUR: 'it returns false'. Refute it at one input. -/
def earHomeWrong : ChangeSpec := { name := "earHome", fn := fun _ => fun
  | [d1, d2] => { results := [.lit (.bool false)], args := [d1, d2] }
  | _ => none }
def EarHomeWrongFalsely : Prop := earHomeRow.holds Tryd.pinned (OpenSpec.ofChange earHomeWrong)

/-- 'earmarklaw01.EarMirrors': WHATEVER THE INPUT: true; the input reads as it did. -/
def earMirrorsSpec : ChangeSpec := { name := "earMirrors", fn := fun _ => fun
  | [d1, d2] => { results := [.lit (.bool true)], args := [d1, d2] }
  | _ => none }
def earMirrorsRow : OpenClaim := { program := "ytedbdpaioikhgaadoor", sum := "40b4e5d539a413acf9eee9b2b3fe24e204bf7fccfe8294c442fc422ecd0b6f8d", func := "earmark/earmarklaw01.EarMirrors", spec := "earMirrors", inPlace := ["internal/abi.NoEscape", "internal/bytealg.MakeNoZero"], unfollowed := true, recurses := true, named := ["earmark/ear.edgeCounts", "internal/strconv.uint64pow10", "math/bits.deBruijn32tab", "math/bits.deBruijn64tab"], apart := false, laid := [("math/bits.deBruijn32tab", laid_math_bits_deBruijn32tab), ("math/bits.deBruijn64tab", laid_math_bits_deBruijn64tab), ("internal/strconv.uint64pow10", laid_internal_strconv_uint64pow10), ("earmark/ear.edgeCounts", laid_earmark_ear_edgeCounts)] }
def EarMirrorsSaid : Prop := earMirrorsRow.holds Tryd.pinned (OpenSpec.ofChange earMirrorsSpec)

/-- ITS FALSE NEIGHBOUR: 'it returns false'. Refute it at one input. -/
def earMirrorsWrong : ChangeSpec := { name := "earMirrors", fn := fun _ => fun
  | [d1, d2] => { results := [.lit (.bool false)], args := [d1, d2] }
  | _ => none }
def EarMirrorsWrongFalsely : Prop := earMirrorsRow.holds Tryd.pinned (OpenSpec.ofChange earMirrorsWrong)

/-- 'earmarklaw01.EarFirst': WHATEVER THE INPUT: true; the input reads as it did. -/
def earFirstSpec : ChangeSpec := { name := "earFirst", fn := fun _ => fun
  | [d1, d2] => { results := [.lit (.bool true)], args := [d1, d2] }
  | _ => none }
def earFirstRow : OpenClaim := { program := "ytedbdpaioikhgaadoor", sum := "40b4e5d539a413acf9eee9b2b3fe24e204bf7fccfe8294c442fc422ecd0b6f8d", func := "earmark/earmarklaw01.EarFirst", spec := "earFirst", inPlace := ["internal/abi.NoEscape", "internal/bytealg.MakeNoZero"], unfollowed := true, recurses := true, named := ["earmark/ear.edgeCounts", "internal/strconv.uint64pow10", "math/bits.deBruijn32tab", "math/bits.deBruijn64tab"], apart := false, laid := [("math/bits.deBruijn32tab", laid_math_bits_deBruijn32tab), ("math/bits.deBruijn64tab", laid_math_bits_deBruijn64tab), ("internal/strconv.uint64pow10", laid_internal_strconv_uint64pow10), ("earmark/ear.edgeCounts", laid_earmark_ear_edgeCounts)] }
def EarFirstSaid : Prop := earFirstRow.holds Tryd.pinned (OpenSpec.ofChange earFirstSpec)

/-- ITS FALSE NEIGHBOUR: 'it returns false'. Refute it at one input. -/
def earFirstWrong : ChangeSpec := { name := "earFirst", fn := fun _ => fun
  | [d1, d2] => { results := [.lit (.bool false)], args := [d1, d2] }
  | _ => none }
def EarFirstWrongFalsely : Prop := earFirstRow.holds Tryd.pinned (OpenSpec.ofChange earFirstWrong)

/- THE SECOND FORM. 'bulk': how many values and letters a reading holds, each counted each time it is reached (what is shared counts as often as it is met; a slice's spare places count too). A statement '..UptoSaid' is the law's where the arguments, and the package variables that the reading takes, are together of bulk at most 1048576: NARROWER than '..Said'. Prove '..Said' where nothing that the law and all that it calls make is longer than what came in: it says more and counts as full. Else prove '..UptoSaid'. A law counts once. -/
mutual
def uptoBulk {H : Type} : DataW H → Nat
  | .lit (.string bytes) => bytes.length + 1
  | .lit _ => 1
  | .nil => 1
  | .ptr d => uptoBulk d + 1
  | .slice elems spare => uptoBulkAll elems + uptoBulkAll spare + 1
  | .agg parts => uptoBulkAll parts + 1
  | .iface _ d => uptoBulk d + 1
  | .map entries => uptoBulkEntries entries + 1
  | .held _ => 1
def uptoBulkAll {H : Type} : List (DataW H) → Nat
  | [] => 0
  | d :: r => uptoBulk d + uptoBulkAll r
def uptoBulkEntries {H : Type} : List (Lit × DataW H) → Nat
  | [] => 0
  | x :: r => uptoBulkEntry x + uptoBulkEntries r
def uptoBulkEntry {H : Type} : Lit × DataW H → Nat
  | (.string bytes, d) => bytes.length + uptoBulk d + 1
  | (_, d) => uptoBulk d + 1
 end
def uptoSmall : (H : Type) → List (DataW H) → Bool := fun _ ds => decide (uptoBulkAll ds ≤ 1048576)
def OpenSpec.upto (s : _root_.Go.ChangeSpec) : _root_.Go.OpenSpec := { _root_.Go.OpenSpec.ofChange s with cond := some uptoSmall }

/-- 'earmarklaw01.EarBijection', WHERE WHAT IT READS IS OF BULK AT MOST 1048576: true; the input reads as it did. -/
def earBijectionUptoRow : OpenClaim := { program := "ytedbdpaioikhgaadoor", sum := "40b4e5d539a413acf9eee9b2b3fe24e204bf7fccfe8294c442fc422ecd0b6f8d", func := "earmark/earmarklaw01.EarBijection", spec := "earBijection", inPlace := ["internal/abi.NoEscape", "internal/bytealg.MakeNoZero"], unfollowed := true, recurses := true, named := ["earmark/ear.edgeCounts", "internal/strconv.uint64pow10", "math/bits.deBruijn32tab", "math/bits.deBruijn64tab"], apart := false, laid := [("math/bits.deBruijn32tab", laid_math_bits_deBruijn32tab), ("math/bits.deBruijn64tab", laid_math_bits_deBruijn64tab), ("internal/strconv.uint64pow10", laid_internal_strconv_uint64pow10), ("earmark/ear.edgeCounts", laid_earmark_ear_edgeCounts)], narrowed := true }
def EarBijectionUptoSaid : Prop := earBijectionUptoRow.holds Tryd.pinned (OpenSpec.upto earBijectionSpec)

/-- 'earmarklaw01.EarOrder', WHERE WHAT IT READS IS OF BULK AT MOST 1048576: true; the input reads as it did. -/
def earOrderUptoRow : OpenClaim := { program := "ytedbdpaioikhgaadoor", sum := "40b4e5d539a413acf9eee9b2b3fe24e204bf7fccfe8294c442fc422ecd0b6f8d", func := "earmark/earmarklaw01.EarOrder", spec := "earOrder", inPlace := ["internal/abi.NoEscape", "internal/bytealg.MakeNoZero"], unfollowed := true, recurses := true, named := ["earmark/ear.edgeCounts", "internal/strconv.uint64pow10", "math/bits.deBruijn32tab", "math/bits.deBruijn64tab"], apart := false, laid := [("math/bits.deBruijn32tab", laid_math_bits_deBruijn32tab), ("math/bits.deBruijn64tab", laid_math_bits_deBruijn64tab), ("internal/strconv.uint64pow10", laid_internal_strconv_uint64pow10), ("earmark/ear.edgeCounts", laid_earmark_ear_edgeCounts)], narrowed := true }
def EarOrderUptoSaid : Prop := earOrderUptoRow.holds Tryd.pinned (OpenSpec.upto earOrderSpec)

/-- 'earmarklaw01.EarBuilt', WHERE WHAT IT READS IS OF BULK AT MOST 1048576: true; the input reads as it did. -/
def earBuiltUptoRow : OpenClaim := { program := "ytedbdpaioikhgaadoor", sum := "40b4e5d539a413acf9eee9b2b3fe24e204bf7fccfe8294c442fc422ecd0b6f8d", func := "earmark/earmarklaw01.EarBuilt", spec := "earBuilt", inPlace := ["internal/abi.NoEscape", "internal/bytealg.MakeNoZero"], unfollowed := true, recurses := true, named := ["earmark/ear.edgeCounts", "internal/strconv.uint64pow10", "math/bits.deBruijn32tab", "math/bits.deBruijn64tab"], apart := false, laid := [("math/bits.deBruijn32tab", laid_math_bits_deBruijn32tab), ("math/bits.deBruijn64tab", laid_math_bits_deBruijn64tab), ("internal/strconv.uint64pow10", laid_internal_strconv_uint64pow10), ("earmark/ear.edgeCounts", laid_earmark_ear_edgeCounts)], narrowed := true }
def EarBuiltUptoSaid : Prop := earBuiltUptoRow.holds Tryd.pinned (OpenSpec.upto earBuiltSpec)

/-- 'earmarklaw01.EarMetric', WHERE WHAT IT READS IS OF BULK AT MOST 1048576: true; the input reads as it did. -/
def earMetricUptoRow : OpenClaim := { program := "ytedbdpaioikhgaadoor", sum := "40b4e5d539a413acf9eee9b2b3fe24e204bf7fccfe8294c442fc422ecd0b6f8d", func := "earmark/earmarklaw01.EarMetric", spec := "earMetric", inPlace := ["internal/abi.NoEscape", "internal/bytealg.MakeNoZero"], unfollowed := true, recurses := true, named := ["earmark/ear.edgeCounts", "internal/strconv.uint64pow10", "math/bits.deBruijn32tab", "math/bits.deBruijn64tab"], apart := false, laid := [("math/bits.deBruijn32tab", laid_math_bits_deBruijn32tab), ("math/bits.deBruijn64tab", laid_math_bits_deBruijn64tab), ("internal/strconv.uint64pow10", laid_internal_strconv_uint64pow10), ("earmark/ear.edgeCounts", laid_earmark_ear_edgeCounts)], narrowed := true }
def EarMetricUptoSaid : Prop := earMetricUptoRow.holds Tryd.pinned (OpenSpec.upto earMetricSpec)

/-- 'earmarklaw01.EarHome', WHERE WHAT IT READS IS OF BULK AT MOST 1048576: true; the input reads as it did. -/
def earHomeUptoRow : OpenClaim := { program := "ytedbdpaioikhgaadoor", sum := "40b4e5d539a413acf9eee9b2b3fe24e204bf7fccfe8294c442fc422ecd0b6f8d", func := "earmark/earmarklaw01.EarHome", spec := "earHome", inPlace := ["internal/abi.NoEscape", "internal/bytealg.MakeNoZero"], unfollowed := true, recurses := true, named := ["earmark/ear.edgeCounts", "internal/strconv.uint64pow10", "math/bits.deBruijn32tab", "math/bits.deBruijn64tab"], apart := false, laid := [("math/bits.deBruijn32tab", laid_math_bits_deBruijn32tab), ("math/bits.deBruijn64tab", laid_math_bits_deBruijn64tab), ("internal/strconv.uint64pow10", laid_internal_strconv_uint64pow10), ("earmark/ear.edgeCounts", laid_earmark_ear_edgeCounts)], narrowed := true }
def EarHomeUptoSaid : Prop := earHomeUptoRow.holds Tryd.pinned (OpenSpec.upto earHomeSpec)

/-- 'earmarklaw01.EarMirrors', WHERE WHAT IT READS IS OF BULK AT MOST 1048576: true; the input reads as it did. -/
def earMirrorsUptoRow : OpenClaim := { program := "ytedbdpaioikhgaadoor", sum := "40b4e5d539a413acf9eee9b2b3fe24e204bf7fccfe8294c442fc422ecd0b6f8d", func := "earmark/earmarklaw01.EarMirrors", spec := "earMirrors", inPlace := ["internal/abi.NoEscape", "internal/bytealg.MakeNoZero"], unfollowed := true, recurses := true, named := ["earmark/ear.edgeCounts", "internal/strconv.uint64pow10", "math/bits.deBruijn32tab", "math/bits.deBruijn64tab"], apart := false, laid := [("math/bits.deBruijn32tab", laid_math_bits_deBruijn32tab), ("math/bits.deBruijn64tab", laid_math_bits_deBruijn64tab), ("internal/strconv.uint64pow10", laid_internal_strconv_uint64pow10), ("earmark/ear.edgeCounts", laid_earmark_ear_edgeCounts)], narrowed := true }
def EarMirrorsUptoSaid : Prop := earMirrorsUptoRow.holds Tryd.pinned (OpenSpec.upto earMirrorsSpec)

/-- 'earmarklaw01.EarFirst', WHERE WHAT IT READS IS OF BULK AT MOST 1048576: true; the input reads as it did. -/
def earFirstUptoRow : OpenClaim := { program := "ytedbdpaioikhgaadoor", sum := "40b4e5d539a413acf9eee9b2b3fe24e204bf7fccfe8294c442fc422ecd0b6f8d", func := "earmark/earmarklaw01.EarFirst", spec := "earFirst", inPlace := ["internal/abi.NoEscape", "internal/bytealg.MakeNoZero"], unfollowed := true, recurses := true, named := ["earmark/ear.edgeCounts", "internal/strconv.uint64pow10", "math/bits.deBruijn32tab", "math/bits.deBruijn64tab"], apart := false, laid := [("math/bits.deBruijn32tab", laid_math_bits_deBruijn32tab), ("math/bits.deBruijn64tab", laid_math_bits_deBruijn64tab), ("internal/strconv.uint64pow10", laid_internal_strconv_uint64pow10), ("earmark/ear.edgeCounts", laid_earmark_ear_edgeCounts)], narrowed := true }
def EarFirstUptoSaid : Prop := earFirstUptoRow.holds Tryd.pinned (OpenSpec.upto earFirstSpec)

end Rows
end Go.Proofs.YtedbdpaioikhgaaDoor
