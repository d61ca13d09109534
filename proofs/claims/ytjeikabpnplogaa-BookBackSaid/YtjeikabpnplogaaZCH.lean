/- A part of the proofs that the laws of layer eight answer true for every input. -/
import Derived.Test.YtjeikabpnplogaaZCC
namespace Go.Proofs.Z
open Go Go.RowKit Go.Proofs Go.Ri Go.Proofs.Z.Fa
/-! Decode of the program: a run (test 4 of the entry fails). -/
set_option maxRecDepth 100000 in
theorem d_24 : doneQ (dA2 4) [true] fDec [sT 0] [] [] bad3 [] = true := by kernel_rfl
end Go.Proofs.Z
