/- A part of the proofs that the laws of layer three answer true for every input. -/
import Derived.Test.YtbacimjjelkfbaaGreatDoorZSnd
namespace Go.Proofs.Z
open Go Go.RowKit Go.Proofs Go.Ri
set_option maxRecDepth 100000 in
theorem snd4 : (allB fun c0 => allB fun c1 => allB fun c2 => allB fun c3 => soundRun 4 c0 c1 c2 c3) = true := by kernel_rfl
end Go.Proofs.Z
