/- A part of the proofs that the laws of layer eight answer true for every input. -/
import Derived.Test.YtjeikabpnplogaaZBE
namespace Go.Proofs.Z
open Go Go.RowKit Go.Proofs Go.Ri Go.Proofs.Z.Fa
/-! MakeStick of both packages: runs. 100 to 131 the secrets, 200 to 231 their images. -/
abbrev fMk : Nat := 12
abbrev fRMk : Nat := 13
def mkD : List RV := [sU 0, sI 50, sI 51]
def stkR : RV := .agg ((List.range 32).map fun i => sU (200 + i))
def stk0 : RV := .agg ((List.range 32).map fun _ => lU 0)
def mkY (fs fi : Nat) (own : Bool) : List YE := (List.range 32).flatMap fun i => [⟨fs, [sU 0, sI 50, sI 51, lI ((i / 2 : Nat) : Int), lI ((i % 2 : Nat) : Int)], if own then .tup [sU (100 + i), lI 0] else sU (100 + i)⟩, ⟨fi, [sU (100 + i)], sU (200 + i)⟩]
noncomputable def mkA : Tb := { Y := mkY fSec fImg true }
noncomputable def mkB : Tb := { T := scT 8, Y := mkY fSecL fRImage false }
def mkS : List SE := (List.range 32).map fun i => .int (200 + i) (sU (200 + i))
set_option maxRecDepth 100000 in
theorem mk_a : doneQ mkA [true] fMk mkD mkS [] (.tup [stkR, lI 0]) [] = true := by kernel_rfl
set_option maxRecDepth 100000 in
theorem mk_b : doneQ mkB [true] fRMk mkD mkS [] (.tup [stkR, lI 0]) [] = true := by kernel_rfl
set_option maxRecDepth 100000 in
theorem mk_no : (allU 4 fun m => doneQ { Y := [⟨fSec, [sU 0, sI 50, sI 51, lI 0, lI 0], .tup [lU 0, lI 1]⟩] } [true] fMk mkD [] [] (.tup [stk0, lI 1]) [] && doneQ { T := scT m } [true] fRMk mkD [] [] (.tup [stk0, lI 1]) []) = true := by kernel_rfl
end Go.Proofs.Z
