/- A part of the proofs that the laws of layer four answer true for every input. -/
import Derived.Test.YtjjmnoiiihcoiaaGreatDoorZGU
import Derived.Test.YtjjmnoiiihcoiaaGreatDoorZGQ
namespace Go.Proofs.Z
open Go Go.RowKit Go.Proofs Go.Ri Go.Proofs.Z.Fa
/-! split, sets, lists: runs. -/
abbrev tInts : Nat := 32
/-! split: 10 done, 11 the set of this one, 12 only this one, 13 done then; lists: 9 the set, 20 so far, 21 then -/
/-! sets -/
/-! lists: 1 how many, 2 the place; lists: 20, 22 the element -/
end Go.Proofs.Z
