/- A part of the proofs that the laws of layer eight answer true for every input. -/
import Derived.Test.YtjeikabpnplogaaZSO
namespace Go.Proofs.Z
open Go Go.RowKit Go.Proofs Go.Ri
set_option maxRecDepth 100000 in
set_option maxHeartbeats 0 in
theorem sane_b : cutB { X := libX1 } fSane 16 (.pl (.bool true)) = true := by kernel_rfl
end Go.Proofs.Z
