/- A part of the proofs that the laws of layer four answer true for every input. -/
import Derived.Test.YtjjmnoiiihcoiaaGreatDoorZHQ
namespace Go.Proofs.Z
open Go Go.RowKit Go.Proofs Go.Ri Go.Proofs.Z.Fa
/-! onePassMore: runs. -/
def rangeR (k : Nat) : Nat → List RV
  | 0 => []
  | n + 1 => rangeR k n ++ [sI (k + n)]
def m16 : List RV := rangeR 40 16
end Go.Proofs.Z
