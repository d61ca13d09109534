/- A part of the proofs that the laws of layer eight answer true for every input. -/
import Derived.Test.YtjeikabpnplogaaZSA
namespace Go.Proofs.Z
open Go Go.RowKit Go.Proofs Go.Ri
set_option maxRecDepth 100000 in
set_option maxHeartbeats 0 in
theorem byT1_ok : tabOK Try.prog cfg0 4000 14 byT1 = true := by kernel_rfl
end Go.Proofs.Z
