/- A part of the proofs that the laws of layer one answer true for every input. -/
import Derived.Test.YtedbdpaioikhgaaGreatDoorZPrG
namespace Go.Proofs.Z.Pr
open Go Go.RowKit Go.Proofs Go.Ri Go.Proofs.Z
set_option maxRecDepth 100000 in
theorem wd_run1 : (allU 12 fun p => allU 5 fun v => wdRun p v 1) = true := by kernel_rfl
end Go.Proofs.Z.Pr
