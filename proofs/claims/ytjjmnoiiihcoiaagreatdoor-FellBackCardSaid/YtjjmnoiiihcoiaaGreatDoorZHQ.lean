/- A part of the proofs that the laws of layer four answer true for every input. -/
import Derived.Test.YtjjmnoiiihcoiaaGreatDoorZGQ
import Derived.Test.YtjjmnoiiihcoiaaGreatDoorZGK
import Derived.Test.YtjjmnoiiihcoiaaGreatDoorZGH
import Derived.Lib.TrailingZeros
namespace Go.Proofs.Z
open Go Go.RowKit Go.Proofs Go.Ri Go.Proofs.Z.Fa
/-! Earliest, of both packages: contracts for all inputs. -/
def eqV (d : Int) (c : Bool) (e : Int) : Value := .tuple #[.int .i64 d, .bool c, .int .i64 e]
section
variable {G : Int} {l : List Value} {n a b : Nat} {fr : Int}
end
end Go.Proofs.Z
