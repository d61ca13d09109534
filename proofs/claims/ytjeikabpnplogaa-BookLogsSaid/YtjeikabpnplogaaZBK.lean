/- A part of the proofs that the laws of layer eight answer true for every input. -/
import Derived.Test.YtjeikabpnplogaaZBJ
namespace Go.Proofs.Z
open Go Go.RowKit Go.Proofs Go.Ri Go.Proofs.Z.Fa
/-! core of the program: runs (its drawn region is long). -/
set_option maxRecDepth 100000 in
theorem core_a : doneQ (coA true) [] fCore [entR] [.lst 110 110] [23] (.slN 0 110 1) (coH true) = true := by kernel_rfl
set_option maxRecDepth 100000 in
theorem core_b : doneQ (coA false) [] fCore [entR] [.lst 41 41] [24] (.slN 0 41 1) (coH false) = true := by kernel_rfl
end Go.Proofs.Z
