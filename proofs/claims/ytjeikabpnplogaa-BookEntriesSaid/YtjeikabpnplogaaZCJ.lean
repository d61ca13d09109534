/- A part of the proofs that the laws of layer eight answer true for every input. -/
import Derived.Test.YtjeikabpnplogaaZCC
namespace Go.Proofs.Z
open Go Go.RowKit Go.Proofs Go.Ri Go.Proofs.Z.Fa
/-! Decode of the specification: runs (an entry is read). -/
set_option maxRecDepth 100000 in
theorem r_5 : doneQ (rA2 false 5) [true] fRDec [sT 0] dS [] good3 [] = true := by kernel_rfl
set_option maxRecDepth 100000 in
theorem r_21 : doneQ (rA2 false 1) [true] fRDec [sT 0] [] [] bad3 [] = true := by kernel_rfl
set_option maxRecDepth 100000 in
theorem r_23 : doneQ (rA2 false 3) [true] fRDec [sT 0] [] [] bad3 [] = true := by kernel_rfl
set_option maxRecDepth 100000 in
theorem r_no : (all2 fun c => doneQ { T := d0T false ++ (d1T c ++ bigT true), Y := rY1 } [true] fRDec [sT 0] [] [] bad3 []) = true := by kernel_rfl
end Go.Proofs.Z
