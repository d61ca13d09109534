/- A part of the proofs that the laws of layer one answer true for every input. -/
import Derived.Test.YtedbdpaioikhgaaDoorZTkP
namespace Go.Proofs.Z.Ps
open Go Go.RowKit Go.Proofs Go.Ri Go.Proofs.Z
set_option maxRecDepth 100000 in
theorem y2_runs0 : Runs0 cM2 where
  enter := by kernel_rfl
  bad1 := by kernel_rfl
  badH := by kernel_rfl
  badE := by kernel_rfl
  badS := by kernel_rfl
  whole := by kernel_rfl
  keep := by kernel_rfl
  nodup := by kernel_rfl
  kok := near_ok
end Go.Proofs.Z.Ps
