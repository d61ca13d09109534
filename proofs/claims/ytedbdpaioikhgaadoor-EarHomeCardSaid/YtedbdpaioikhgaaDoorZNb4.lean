/- A part of the proofs that the laws of layer one answer true for every input. -/
import Derived.Test.YtedbdpaioikhgaaDoorZNb0
namespace Go.Proofs.Z
open Go Go.RowKit Go.Proofs Go.Ri
set_option maxRecDepth 100000 in
theorem nb_all3 : (allU 3 fun k => allU 5 fun p => allU 32 fun m => nbOne (9 + k) p m) = true := by kernel_rfl
end Go.Proofs.Z
