/- A part of the proofs that the laws of layer four answer true for every input. -/
import Derived.Test.YtjjmnoiiihcoiaaGreatDoorZFoU
namespace Go.Proofs.Z
open Go Go.RowKit Go.Proofs Go.Ri
set_option maxRecDepth 100000 in
set_option maxHeartbeats 0 in
theorem path_run : uRun ePath [14] = true := by kernel_rfl
end Go.Proofs.Z
