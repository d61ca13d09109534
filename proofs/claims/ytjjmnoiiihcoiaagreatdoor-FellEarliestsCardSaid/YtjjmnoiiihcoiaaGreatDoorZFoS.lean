/- A part of the proofs that the laws of layer four answer true for every input. -/
import Derived.Test.YtjjmnoiiihcoiaaGreatDoorZFoV
namespace Go.Proofs.Z
open Go Go.RowKit Go.Proofs Go.Ri
noncomputable def uD : List (Nat × List RV) := [(7, [lI 0, lI 1, lI 100, lI 200, lI 1, lI 2, lI 150, lI 160, lI 1, lI 2, lI 300, lI 20, lI 2, lI 3, lI 5, lI 5])]
noncomputable def sanTb : Tb := { X := libX, F := libF, T := qT, LQ := qLQ, LL := qLL, LX := qLX, LA := qLA, LP := qLP, IZ := [(999, 0)], U := qdU uD uE }
set_option maxRecDepth 100000 in
set_option maxHeartbeats 0 in
theorem sane_run : doneQ sanTb [] fSane [] [] [] (bR true) [] = true := by kernel_rfl
end Go.Proofs.Z
