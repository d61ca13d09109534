/- A part of the proofs that the laws of layer one answer true for every input. -/
import Derived.Test.YtedbdpaioikhgaaDoorZTkG
namespace Go.Proofs.Z.Ps
open Go Go.RowKit Go.Proofs Go.Ri Go.Proofs.Z
/-- ParseWords as the caller. -/
def cW : Cx := ⟨zEs 1, zEs 1, [], 100, 1, 1, 0⟩
set_option maxRecDepth 100000 in
theorem x1_runs0 : Runs0 cW where
  enter := by kernel_rfl
  bad1 := by kernel_rfl
  badH := by kernel_rfl
  badE := by kernel_rfl
  badS := by kernel_rfl
  whole := by kernel_rfl
  keep := by kernel_rfl
  nodup := by kernel_rfl
  kok := fun _ _ _ e he => by cases he
end Go.Proofs.Z.Ps
