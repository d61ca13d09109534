/- A part of the proofs that the laws of layer one answer true for every input. -/
import Derived.Test.YtedbdpaioikhgaaGreatDoorZSpE
namespace Go.Proofs.Z.Sp
open Go Go.RowKit Go.Proofs Go.Ri Go.Proofs.Z
set_option maxRecDepth 100000 in
theorem e_end : (all2 fun ou => allU 12 fun p => allU 5 fun v => eEnd 100 p v ou) = true := by kernel_rfl
end Go.Proofs.Z.Sp
