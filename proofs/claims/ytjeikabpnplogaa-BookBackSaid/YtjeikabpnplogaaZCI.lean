/- A part of the proofs that the laws of layer eight answer true for every input. -/
import Derived.Test.YtjeikabpnplogaaZCC
namespace Go.Proofs.Z
open Go Go.RowKit Go.Proofs Go.Ri Go.Proofs.Z.Fa
/-! Decode of the program: a run (the entry is valid). -/
set_option maxRecDepth 100000 in
theorem d_5 : doneQ (dA2 5) [true] fDec [sT 0] dS [] good3 [] = true := by kernel_rfl
end Go.Proofs.Z
