/- A part of the proofs that the laws of layer eight answer true for every input. -/
import Derived.Test.YtjeikabpnplogaaGreatZEF
namespace Go.Proofs.Z
open Go Go.RowKit Go.Proofs Go.Ri Go.Proofs.Z.Fa
/-! The law BookConvicts: a run. -/
set_option maxRecDepth 100000 in
theorem bc_true0 : doneQ (bcA true 0) [] fBookConvicts bcD [] [] (bR true) [] = true := by kernel_rfl
end Go.Proofs.Z
