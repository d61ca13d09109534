/- A part of the proofs that the laws of layer four answer true for every input. -/
import Derived.Test.YtjjmnoiiihcoiaaGreatDoorZPD
import Derived.Test.YtjjmnoiiihcoiaaGreatDoorZHd
namespace Go.Proofs.Z
open Go Go.RowKit Go.Proofs Go.Ri Go.Proofs.Z.Fa
/-! The specification's Split: runs. 6 the byte; 2 the place, 3 where the piece begins; strings: 20 the piece up to the place, 21 all that is left; lists: 9 the pieces, 10 and 11 with one more. -/
abbrev tStr : TypeId := 9
end Go.Proofs.Z

namespace Go.Proofs.Z
open Go Go.RowKit Go.Proofs Go.Ri Go.Proofs.Z.Fa
/-! The specification's Split: its contract. -/
theorem bs_list (l : List UInt8) : (bs l).data.toList = l := by show l.toArray.toList = l; simp
end Go.Proofs.Z
