/-
  NARROWER THAN 'FOR EVERY INPUT', by the rows' own cells (each row's printed sentence says how): KnifeCuts: laid · KnifeApplies: laid · KnifeSteps: laid · KnifeChecks: laid · KnifeTexts: laid.
  DERIVED. THE GIVEN ROWS OF THIS SEAT. 5 by the template 'for every input the law returns true; each argument reads behind the call as it read before'; 0 by the template 'total and deterministic' (their statements: YtbacimjjelkfbaaGreatDoorTotals.lean).
  GIVEN WITH THE SEED: the statements are not yours to turn. If you find one false, say at which input.
  Laid BY PROGRAM, IN A SANDBOX (cutbox-rows.mjs): the forced cells as the released guide's own fill.sh prints them over the translation e2499de3ab6ecb93… (all of the seat's roots in one cut). By AI agents, Wed Nov 11 2026. No macro, syntax, notation, axiom, sorry.
-/
import Derived.Test.YtbacimjjelkfbaaGreatDoorChecked
import GoSem.Claim
import GoSem.ClaimJoined
import GoSem.ClaimMapViews
import Derived.JoinedTies
import Derived.KernelRfl
namespace Go.Proofs.YtbacimjjelkfbaaGreatDoor
/- THE CELL 'sum', in the pinned program and in every row, IS THE sha256 OF THE DUMP (.gsa) THAT YtbacimjjelkfbaaGreatDoorProg.lean LOADS. Nothing in Lean hashes anything: it is a label: what it is worth is what the hold of that sum in a sandbox is worth. -/
noncomputable def Tryz.pinned : Pinned := { name := "ytbacimjjelkfbaagreatdoor", sum := "e2499de3ab6ecb9334f038a851a208321af193e2a2d7b21821ae205064ef3c12", checked := Tryz.checked }
namespace Rows
def none {H : Type} : Left H := { results := [], args := [] }

/- WHAT THE LISTED PACKAGE-LEVEL VARIABLES READ AS WHEN THE CALL BEGINS. Each datum BY PROGRAM (the guide's laid-datum.mjs) off the statement by which the dump's own 'gosem.cut.vars' lays the variable. In a bare row this is a premise. The card (YtbacimjjelkfbaaGreatDoorCards.lean) ties it to the program's text. -/
def laid_math_bits_deBruijn32tab {H : Type} : DataW H := .agg [.lit (.int .u8 0), .lit (.int .u8 1), .lit (.int .u8 28), .lit (.int .u8 2), .lit (.int .u8 29), .lit (.int .u8 14), .lit (.int .u8 24), .lit (.int .u8 3), .lit (.int .u8 30), .lit (.int .u8 22), .lit (.int .u8 20), .lit (.int .u8 15), .lit (.int .u8 25), .lit (.int .u8 17), .lit (.int .u8 4), .lit (.int .u8 8), .lit (.int .u8 31), .lit (.int .u8 27), .lit (.int .u8 13), .lit (.int .u8 23), .lit (.int .u8 21), .lit (.int .u8 19), .lit (.int .u8 16), .lit (.int .u8 7), .lit (.int .u8 26), .lit (.int .u8 12), .lit (.int .u8 18), .lit (.int .u8 6), .lit (.int .u8 11), .lit (.int .u8 5), .lit (.int .u8 10), .lit (.int .u8 9)]
def laid_math_bits_deBruijn64tab {H : Type} : DataW H := .agg [.lit (.int .u8 0), .lit (.int .u8 1), .lit (.int .u8 56), .lit (.int .u8 2), .lit (.int .u8 57), .lit (.int .u8 49), .lit (.int .u8 28), .lit (.int .u8 3), .lit (.int .u8 61), .lit (.int .u8 58), .lit (.int .u8 42), .lit (.int .u8 50), .lit (.int .u8 38), .lit (.int .u8 29), .lit (.int .u8 17), .lit (.int .u8 4), .lit (.int .u8 62), .lit (.int .u8 47), .lit (.int .u8 59), .lit (.int .u8 36), .lit (.int .u8 45), .lit (.int .u8 43), .lit (.int .u8 51), .lit (.int .u8 22), .lit (.int .u8 53), .lit (.int .u8 39), .lit (.int .u8 33), .lit (.int .u8 30), .lit (.int .u8 24), .lit (.int .u8 18), .lit (.int .u8 12), .lit (.int .u8 5), .lit (.int .u8 63), .lit (.int .u8 55), .lit (.int .u8 48), .lit (.int .u8 27), .lit (.int .u8 60), .lit (.int .u8 41), .lit (.int .u8 37), .lit (.int .u8 16), .lit (.int .u8 46), .lit (.int .u8 35), .lit (.int .u8 44), .lit (.int .u8 21), .lit (.int .u8 52), .lit (.int .u8 32), .lit (.int .u8 23), .lit (.int .u8 11), .lit (.int .u8 54), .lit (.int .u8 26), .lit (.int .u8 40), .lit (.int .u8 15), .lit (.int .u8 34), .lit (.int .u8 20), .lit (.int .u8 31), .lit (.int .u8 10), .lit (.int .u8 25), .lit (.int .u8 14), .lit (.int .u8 19), .lit (.int .u8 9), .lit (.int .u8 13), .lit (.int .u8 8), .lit (.int .u8 7), .lit (.int .u8 6)]
def laid_internal_strconv_uint64pow10 {H : Type} : DataW H := .agg [.lit (.int .u64 1), .lit (.int .u64 10), .lit (.int .u64 100), .lit (.int .u64 1000), .lit (.int .u64 10000), .lit (.int .u64 100000), .lit (.int .u64 1000000), .lit (.int .u64 10000000), .lit (.int .u64 100000000), .lit (.int .u64 1000000000), .lit (.int .u64 10000000000), .lit (.int .u64 100000000000), .lit (.int .u64 1000000000000), .lit (.int .u64 10000000000000), .lit (.int .u64 100000000000000), .lit (.int .u64 1000000000000000), .lit (.int .u64 10000000000000000), .lit (.int .u64 100000000000000000), .lit (.int .u64 1000000000000000000), .lit (.int .u64 10000000000000000000)]
def laid_earmark_weather_kinds {H : Type} : DataW H := .agg [.agg [.lit (.string []), .lit (.int .i64 0), .lit (.int .i64 0)], .agg [.lit (.string [102, 114, 111, 115, 116]), .lit (.int .i64 1), .lit (.int .i64 1)], .agg [.lit (.string [116, 101, 97, 114]), .lit (.int .i64 2), .lit (.int .i64 3)], .agg [.lit (.string [114, 117, 110]), .lit (.int .i64 2), .lit (.int .i64 2)], .agg [.lit (.string [99, 108, 111, 115, 101]), .lit (.int .i64 1), .lit (.int .i64 3)], .agg [.lit (.string [104, 101, 97, 108]), .lit (.int .i64 1), .lit (.int .i64 1)], .agg [.lit (.string [115, 104, 117, 116]), .lit (.int .i64 2), .lit (.int .i64 4)], .agg [.lit (.string [119, 101, 97, 114]), .lit (.int .i64 2), .lit (.int .i64 4)]]
def laid_earmark_knife_tipWords {H : Type} : DataW H := .agg [.lit (.string []), .lit (.string [115, 108, 105, 116]), .lit (.string [102, 111, 114, 107, 101, 100]), .lit (.string [104, 111, 108, 108, 111, 119, 101, 100]), .lit (.string [99, 114, 111, 112, 112, 101, 100])]
def laid_earmark_knife_slotWords {H : Type} : DataW H := .agg [.lit (.string []), .lit (.string [110, 111, 116, 99, 104]), .lit (.string [98, 105, 116]), .lit (.string [107, 101, 121])]
def laid_earmark_knife_edgeWords {H : Type} : DataW H := .agg [.lit (.string [117, 112, 112, 101, 114]), .lit (.string [108, 111, 119, 101, 114])]

/-- 'earmarklaw03.KnifeCuts': WHATEVER THE INPUT: true; the input reads as it did. -/
def knifeCutsSpec : ChangeSpec := { name := "knifeCuts", fn := fun _ => fun
  | [d1, d2] => { results := [.lit (.bool true)], args := [d1, d2] }
  | _ => none }
def knifeCutsRow : OpenClaim := { program := "ytbacimjjelkfbaagreatdoor", sum := "e2499de3ab6ecb9334f038a851a208321af193e2a2d7b21821ae205064ef3c12", func := "earmark/earmarklaw03.KnifeCuts", spec := "knifeCuts", inPlace := ["internal/abi.NoEscape", "internal/bytealg.MakeNoZero"], unfollowed := true, recurses := true, named := ["earmark/knife.tipWords", "earmark/knife.edgeWords", "earmark/knife.slotWords", "internal/strconv.uint64pow10", "math/bits.deBruijn32tab", "math/bits.deBruijn64tab", "earmark/weather.kinds"], plainKeys := false, apart := false, laid := [("math/bits.deBruijn32tab", laid_math_bits_deBruijn32tab), ("math/bits.deBruijn64tab", laid_math_bits_deBruijn64tab), ("internal/strconv.uint64pow10", laid_internal_strconv_uint64pow10), ("earmark/weather.kinds", laid_earmark_weather_kinds), ("earmark/knife.tipWords", laid_earmark_knife_tipWords), ("earmark/knife.slotWords", laid_earmark_knife_slotWords), ("earmark/knife.edgeWords", laid_earmark_knife_edgeWords)] }
def KnifeCutsSaid : Prop := knifeCutsRow.holds Tryz.pinned (OpenSpec.ofChange knifeCutsSpec)

/-- ITS FALSE NEIGHBOUR: 'it returns false'. Refute it at one input. -/
def knifeCutsWrong : ChangeSpec := { name := "knifeCuts", fn := fun _ => fun
  | [d1, d2] => { results := [.lit (.bool false)], args := [d1, d2] }
  | _ => none }
def KnifeCutsWrongFalsely : Prop := knifeCutsRow.holds Tryz.pinned (OpenSpec.ofChange knifeCutsWrong)

/-- 'earmarklaw03.KnifeApplies': WHATEVER THE INPUT: true; the input reads as it did. -/
def knifeAppliesSpec : ChangeSpec := { name := "knifeApplies", fn := fun _ => fun
  | [d1, d2, d3] => { results := [.lit (.bool true)], args := [d1, d2, d3] }
  | _ => none }
def knifeAppliesRow : OpenClaim := { program := "ytbacimjjelkfbaagreatdoor", sum := "e2499de3ab6ecb9334f038a851a208321af193e2a2d7b21821ae205064ef3c12", func := "earmark/earmarklaw03.KnifeApplies", spec := "knifeApplies", inPlace := ["internal/abi.NoEscape", "internal/bytealg.MakeNoZero"], unfollowed := true, recurses := true, named := ["earmark/knife.tipWords", "earmark/knife.edgeWords", "earmark/knife.slotWords", "internal/strconv.uint64pow10", "math/bits.deBruijn32tab", "math/bits.deBruijn64tab", "earmark/weather.kinds"], plainKeys := false, apart := false, laid := [("math/bits.deBruijn32tab", laid_math_bits_deBruijn32tab), ("math/bits.deBruijn64tab", laid_math_bits_deBruijn64tab), ("internal/strconv.uint64pow10", laid_internal_strconv_uint64pow10), ("earmark/weather.kinds", laid_earmark_weather_kinds), ("earmark/knife.tipWords", laid_earmark_knife_tipWords), ("earmark/knife.slotWords", laid_earmark_knife_slotWords), ("earmark/knife.edgeWords", laid_earmark_knife_edgeWords)] }
def KnifeAppliesSaid : Prop := knifeAppliesRow.holds Tryz.pinned (OpenSpec.ofChange knifeAppliesSpec)

/-- ITS FALSE NEIGHBOUR: 'it returns false'. Refute it at one input. -/
def knifeAppliesWrong : ChangeSpec := { name := "knifeApplies", fn := fun _ => fun
  | [d1, d2, d3] => { results := [.lit (.bool false)], args := [d1, d2, d3] }
  | _ => none }
def KnifeAppliesWrongFalsely : Prop := knifeAppliesRow.holds Tryz.pinned (OpenSpec.ofChange knifeAppliesWrong)

/-- 'earmarklaw03.KnifeSteps': WHATEVER THE INPUT: true; the input reads as it did. -/
def knifeStepsSpec : ChangeSpec := { name := "knifeSteps", fn := fun _ => fun
  | [d1, d2] => { results := [.lit (.bool true)], args := [d1, d2] }
  | _ => none }
def knifeStepsRow : OpenClaim := { program := "ytbacimjjelkfbaagreatdoor", sum := "e2499de3ab6ecb9334f038a851a208321af193e2a2d7b21821ae205064ef3c12", func := "earmark/earmarklaw03.KnifeSteps", spec := "knifeSteps", inPlace := ["internal/abi.NoEscape", "internal/bytealg.MakeNoZero"], unfollowed := true, recurses := true, named := ["earmark/knife.tipWords", "earmark/knife.edgeWords", "earmark/knife.slotWords", "internal/strconv.uint64pow10", "math/bits.deBruijn32tab", "math/bits.deBruijn64tab", "earmark/weather.kinds"], plainKeys := false, apart := false, laid := [("math/bits.deBruijn32tab", laid_math_bits_deBruijn32tab), ("math/bits.deBruijn64tab", laid_math_bits_deBruijn64tab), ("internal/strconv.uint64pow10", laid_internal_strconv_uint64pow10), ("earmark/weather.kinds", laid_earmark_weather_kinds), ("earmark/knife.tipWords", laid_earmark_knife_tipWords), ("earmark/knife.slotWords", laid_earmark_knife_slotWords), ("earmark/knife.edgeWords", laid_earmark_knife_edgeWords)] }
def KnifeStepsSaid : Prop := knifeStepsRow.holds Tryz.pinned (OpenSpec.ofChange knifeStepsSpec)

/-- ITS FALSE NEIGHBOUR: 'it returns false'. Refute it at one input. -/
def knifeStepsWrong : ChangeSpec := { name := "knifeSteps", fn := fun _ => fun
  | [d1, d2] => { results := [.lit (.bool false)], args := [d1, d2] }
  | _ => none }
def KnifeStepsWrongFalsely : Prop := knifeStepsRow.holds Tryz.pinned (OpenSpec.ofChange knifeStepsWrong)

/-- 'earmarklaw03.KnifeChecks': WHATEVER THE INPUT: true; the input reads as it did. -/
def knifeChecksSpec : ChangeSpec := { name := "knifeChecks", fn := fun _ => fun
  | [d] => { results := [.lit (.bool true)], args := [d] }
  | _ => none }
def knifeChecksRow : OpenClaim := { program := "ytbacimjjelkfbaagreatdoor", sum := "e2499de3ab6ecb9334f038a851a208321af193e2a2d7b21821ae205064ef3c12", func := "earmark/earmarklaw03.KnifeChecks", spec := "knifeChecks", inPlace := ["internal/abi.NoEscape", "internal/bytealg.MakeNoZero"], unfollowed := true, recurses := true, named := ["earmark/knife.tipWords", "earmark/knife.edgeWords", "earmark/knife.slotWords", "internal/strconv.uint64pow10", "math/bits.deBruijn32tab", "math/bits.deBruijn64tab", "earmark/weather.kinds"], plainKeys := false, apart := false, laid := [("math/bits.deBruijn32tab", laid_math_bits_deBruijn32tab), ("math/bits.deBruijn64tab", laid_math_bits_deBruijn64tab), ("internal/strconv.uint64pow10", laid_internal_strconv_uint64pow10), ("earmark/weather.kinds", laid_earmark_weather_kinds), ("earmark/knife.tipWords", laid_earmark_knife_tipWords), ("earmark/knife.slotWords", laid_earmark_knife_slotWords), ("earmark/knife.edgeWords", laid_earmark_knife_edgeWords)] }
def KnifeChecksSaid : Prop := knifeChecksRow.holds Tryz.pinned (OpenSpec.ofChange knifeChecksSpec)

/-- ITS FALSE NEIGHBOUR: 'it returns false'. Refute it at one input. -/
def knifeChecksWrong : ChangeSpec := { name := "knifeChecks", fn := fun _ => fun
  | [d] => { results := [.lit (.bool false)], args := [d] }
  | _ => none }
def KnifeChecksWrongFalsely : Prop := knifeChecksRow.holds Tryz.pinned (OpenSpec.ofChange knifeChecksWrong)

/-- 'earmarklaw03.KnifeTexts': WHATEVER THE INPUT: true; the input reads as it did. -/
def knifeTextsSpec : ChangeSpec := { name := "knifeTexts", fn := fun _ => fun
  | [d1, d2] => { results := [.lit (.bool true)], args := [d1, d2] }
  | _ => none }
def knifeTextsRow : OpenClaim := { program := "ytbacimjjelkfbaagreatdoor", sum := "e2499de3ab6ecb9334f038a851a208321af193e2a2d7b21821ae205064ef3c12", func := "earmark/earmarklaw03.KnifeTexts", spec := "knifeTexts", inPlace := ["internal/abi.NoEscape", "internal/bytealg.MakeNoZero"], unfollowed := true, recurses := true, named := ["earmark/knife.tipWords", "earmark/knife.edgeWords", "earmark/knife.slotWords", "internal/strconv.uint64pow10", "math/bits.deBruijn32tab", "math/bits.deBruijn64tab", "earmark/weather.kinds"], plainKeys := false, apart := false, laid := [("math/bits.deBruijn32tab", laid_math_bits_deBruijn32tab), ("math/bits.deBruijn64tab", laid_math_bits_deBruijn64tab), ("internal/strconv.uint64pow10", laid_internal_strconv_uint64pow10), ("earmark/weather.kinds", laid_earmark_weather_kinds), ("earmark/knife.tipWords", laid_earmark_knife_tipWords), ("earmark/knife.slotWords", laid_earmark_knife_slotWords), ("earmark/knife.edgeWords", laid_earmark_knife_edgeWords)] }
def KnifeTextsSaid : Prop := knifeTextsRow.holds Tryz.pinned (OpenSpec.ofChange knifeTextsSpec)

/-- ITS FALSE NEIGHBOUR: 'it returns false'. Refute it at one input. -/
def knifeTextsWrong : ChangeSpec := { name := "knifeTexts", fn := fun _ => fun
  | [d1, d2] => { results := [.lit (.bool false)], args := [d1, d2] }
  | _ => none }
def KnifeTextsWrongFalsely : Prop := knifeTextsRow.holds Tryz.pinned (OpenSpec.ofChange knifeTextsWrong)

/- THE SECOND FORM. 'bulk': how many values and letters a reading holds, each counted each time it is reached (what is shared counts as often as it is met; a slice's spare places count too). A statement '..UptoSaid' is the law's where the arguments, and the package variables that the reading takes, are together of bulk at most 1048576: NARROWER than '..Said'. Prove '..Said' where nothing that the law and all that it calls make is longer than what came in: it says more and counts as full. Else prove '..UptoSaid'. A law counts once. -/
mutual
def uptoBulk {H : Type} : DataW H → Nat
  | .lit (.string bytes) => bytes.length + 1
  | .lit _ => 1
  | .nil => 1
  | .ptr d => uptoBulk d + 1
  | .slice elems spare => uptoBulkAll elems + uptoBulkAll spare + 1
  | .agg parts => uptoBulkAll parts + 1
  | .iface _ d => uptoBulk d + 1
  | .map entries => uptoBulkEntries entries + 1
  | .held _ => 1
def uptoBulkAll {H : Type} : List (DataW H) → Nat
  | [] => 0
  | d :: r => uptoBulk d + uptoBulkAll r
def uptoBulkEntries {H : Type} : List (Lit × DataW H) → Nat
  | [] => 0
  | x :: r => uptoBulkEntry x + uptoBulkEntries r
def uptoBulkEntry {H : Type} : Lit × DataW H → Nat
  | (.string bytes, d) => bytes.length + uptoBulk d + 1
  | (_, d) => uptoBulk d + 1
 end
def uptoSmall : (H : Type) → List (DataW H) → Bool := fun _ ds => decide (uptoBulkAll ds ≤ 1048576)
def OpenSpec.upto (s : _root_.Go.ChangeSpec) : _root_.Go.OpenSpec := { _root_.Go.OpenSpec.ofChange s with cond := some uptoSmall }

/-- 'earmarklaw03.KnifeCuts', WHERE WHAT IT READS IS OF BULK AT MOST 1048576: true; the input reads as it did. -/
def knifeCutsUptoRow : OpenClaim := { program := "ytbacimjjelkfbaagreatdoor", sum := "e2499de3ab6ecb9334f038a851a208321af193e2a2d7b21821ae205064ef3c12", func := "earmark/earmarklaw03.KnifeCuts", spec := "knifeCuts", inPlace := ["internal/abi.NoEscape", "internal/bytealg.MakeNoZero"], unfollowed := true, recurses := true, named := ["earmark/knife.tipWords", "earmark/knife.edgeWords", "earmark/knife.slotWords", "internal/strconv.uint64pow10", "math/bits.deBruijn32tab", "math/bits.deBruijn64tab", "earmark/weather.kinds"], plainKeys := false, apart := false, laid := [("math/bits.deBruijn32tab", laid_math_bits_deBruijn32tab), ("math/bits.deBruijn64tab", laid_math_bits_deBruijn64tab), ("internal/strconv.uint64pow10", laid_internal_strconv_uint64pow10), ("earmark/weather.kinds", laid_earmark_weather_kinds), ("earmark/knife.tipWords", laid_earmark_knife_tipWords), ("earmark/knife.slotWords", laid_earmark_knife_slotWords), ("earmark/knife.edgeWords", laid_earmark_knife_edgeWords)], narrowed := true }
def KnifeCutsUptoSaid : Prop := knifeCutsUptoRow.holds Tryz.pinned (OpenSpec.upto knifeCutsSpec)

/-- 'earmarklaw03.KnifeApplies', WHERE WHAT IT READS IS OF BULK AT MOST 1048576: true; the input reads as it did. -/
def knifeAppliesUptoRow : OpenClaim := { program := "ytbacimjjelkfbaagreatdoor", sum := "e2499de3ab6ecb9334f038a851a208321af193e2a2d7b21821ae205064ef3c12", func := "earmark/earmarklaw03.KnifeApplies", spec := "knifeApplies", inPlace := ["internal/abi.NoEscape", "internal/bytealg.MakeNoZero"], unfollowed := true, recurses := true, named := ["earmark/knife.tipWords", "earmark/knife.edgeWords", "earmark/knife.slotWords", "internal/strconv.uint64pow10", "math/bits.deBruijn32tab", "math/bits.deBruijn64tab", "earmark/weather.kinds"], plainKeys := false, apart := false, laid := [("math/bits.deBruijn32tab", laid_math_bits_deBruijn32tab), ("math/bits.deBruijn64tab", laid_math_bits_deBruijn64tab), ("internal/strconv.uint64pow10", laid_internal_strconv_uint64pow10), ("earmark/weather.kinds", laid_earmark_weather_kinds), ("earmark/knife.tipWords", laid_earmark_knife_tipWords), ("earmark/knife.slotWords", laid_earmark_knife_slotWords), ("earmark/knife.edgeWords", laid_earmark_knife_edgeWords)], narrowed := true }
def KnifeAppliesUptoSaid : Prop := knifeAppliesUptoRow.holds Tryz.pinned (OpenSpec.upto knifeAppliesSpec)

/-- 'earmarklaw03.KnifeSteps', WHERE WHAT IT READS IS OF BULK AT MOST 1048576: true; the input reads as it did. -/
def knifeStepsUptoRow : OpenClaim := { program := "ytbacimjjelkfbaagreatdoor", sum := "e2499de3ab6ecb9334f038a851a208321af193e2a2d7b21821ae205064ef3c12", func := "earmark/earmarklaw03.KnifeSteps", spec := "knifeSteps", inPlace := ["internal/abi.NoEscape", "internal/bytealg.MakeNoZero"], unfollowed := true, recurses := true, named := ["earmark/knife.tipWords", "earmark/knife.edgeWords", "earmark/knife.slotWords", "internal/strconv.uint64pow10", "math/bits.deBruijn32tab", "math/bits.deBruijn64tab", "earmark/weather.kinds"], plainKeys := false, apart := false, laid := [("math/bits.deBruijn32tab", laid_math_bits_deBruijn32tab), ("math/bits.deBruijn64tab", laid_math_bits_deBruijn64tab), ("internal/strconv.uint64pow10", laid_internal_strconv_uint64pow10), ("earmark/weather.kinds", laid_earmark_weather_kinds), ("earmark/knife.tipWords", laid_earmark_knife_tipWords), ("earmark/knife.slotWords", laid_earmark_knife_slotWords), ("earmark/knife.edgeWords", laid_earmark_knife_edgeWords)], narrowed := true }
def KnifeStepsUptoSaid : Prop := knifeStepsUptoRow.holds Tryz.pinned (OpenSpec.upto knifeStepsSpec)

/-- 'earmarklaw03.KnifeChecks', WHERE WHAT IT READS IS OF BULK AT MOST 1048576: true; the input reads as it did. -/
def knifeChecksUptoRow : OpenClaim := { program := "ytbacimjjelkfbaagreatdoor", sum := "e2499de3ab6ecb9334f038a851a208321af193e2a2d7b21821ae205064ef3c12", func := "earmark/earmarklaw03.KnifeChecks", spec := "knifeChecks", inPlace := ["internal/abi.NoEscape", "internal/bytealg.MakeNoZero"], unfollowed := true, recurses := true, named := ["earmark/knife.tipWords", "earmark/knife.edgeWords", "earmark/knife.slotWords", "internal/strconv.uint64pow10", "math/bits.deBruijn32tab", "math/bits.deBruijn64tab", "earmark/weather.kinds"], plainKeys := false, apart := false, laid := [("math/bits.deBruijn32tab", laid_math_bits_deBruijn32tab), ("math/bits.deBruijn64tab", laid_math_bits_deBruijn64tab), ("internal/strconv.uint64pow10", laid_internal_strconv_uint64pow10), ("earmark/weather.kinds", laid_earmark_weather_kinds), ("earmark/knife.tipWords", laid_earmark_knife_tipWords), ("earmark/knife.slotWords", laid_earmark_knife_slotWords), ("earmark/knife.edgeWords", laid_earmark_knife_edgeWords)], narrowed := true }
def KnifeChecksUptoSaid : Prop := knifeChecksUptoRow.holds Tryz.pinned (OpenSpec.upto knifeChecksSpec)

/-- 'earmarklaw03.KnifeTexts', WHERE WHAT IT READS IS OF BULK AT MOST 1048576: true; the input reads as it did. -/
def knifeTextsUptoRow : OpenClaim := { program := "ytbacimjjelkfbaagreatdoor", sum := "e2499de3ab6ecb9334f038a851a208321af193e2a2d7b21821ae205064ef3c12", func := "earmark/earmarklaw03.KnifeTexts", spec := "knifeTexts", inPlace := ["internal/abi.NoEscape", "internal/bytealg.MakeNoZero"], unfollowed := true, recurses := true, named := ["earmark/knife.tipWords", "earmark/knife.edgeWords", "earmark/knife.slotWords", "internal/strconv.uint64pow10", "math/bits.deBruijn32tab", "math/bits.deBruijn64tab", "earmark/weather.kinds"], plainKeys := false, apart := false, laid := [("math/bits.deBruijn32tab", laid_math_bits_deBruijn32tab), ("math/bits.deBruijn64tab", laid_math_bits_deBruijn64tab), ("internal/strconv.uint64pow10", laid_internal_strconv_uint64pow10), ("earmark/weather.kinds", laid_earmark_weather_kinds), ("earmark/knife.tipWords", laid_earmark_knife_tipWords), ("earmark/knife.slotWords", laid_earmark_knife_slotWords), ("earmark/knife.edgeWords", laid_earmark_knife_edgeWords)], narrowed := true }
def KnifeTextsUptoSaid : Prop := knifeTextsUptoRow.holds Tryz.pinned (OpenSpec.upto knifeTextsSpec)

end Rows
end Go.Proofs.YtbacimjjelkfbaaGreatDoor
