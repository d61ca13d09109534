/- A part of the proofs that the laws of layer eight answer true for every input. -/
import Derived.Test.YtjeikabpnplogaaZCA
namespace Go.Proofs.Z
open Go Go.RowKit Go.Proofs Go.Ri Go.Proofs.Z.Fa
/-! encodingOf of the program: its run. -/
set_option maxRecDepth 100000 in
theorem ec_a : (all2 fun q => doneQ (ecA q) [true] fEncOf [entR] [.str 4 (sT 4)] [] (sT 4) []) = true := by kernel_rfl
end Go.Proofs.Z
