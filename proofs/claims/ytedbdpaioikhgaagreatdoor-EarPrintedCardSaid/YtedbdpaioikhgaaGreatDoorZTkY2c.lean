/- A part of the proofs that the laws of layer one answer true for every input. -/
import Derived.Test.YtedbdpaioikhgaaGreatDoorZTkY2
namespace Go.Proofs.Z.Ps
open Go Go.RowKit Go.Proofs Go.Ri Go.Proofs.Z
set_option maxRecDepth 100000 in
theorem y2_twice : (allU 12 fun p => allU 5 fun v => eTwice cM2 p v) = true := by kernel_rfl
end Go.Proofs.Z.Ps
