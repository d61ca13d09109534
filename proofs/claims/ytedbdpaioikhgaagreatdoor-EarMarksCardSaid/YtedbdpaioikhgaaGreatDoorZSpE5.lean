/- A part of the proofs that the laws of layer one answer true for every input. -/
import Derived.Test.YtedbdpaioikhgaaGreatDoorZSpE
namespace Go.Proofs.Z.Sp
open Go Go.RowKit Go.Proofs Go.Ri Go.Proofs.Z
set_option maxRecDepth 100000 in
theorem e_twice2 : (allU 12 fun p => allU 5 fun v => eTwice 200 p v) = true := by kernel_rfl
set_option maxRecDepth 100000 in
theorem e_bad2 : (all2 fun ou => allU 4 fun c => allU 2 fun e => allU 3 fun v => eBad 200 c e v ou) = true := by kernel_rfl
end Go.Proofs.Z.Sp
