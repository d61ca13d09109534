/- A part of the proofs that the laws of layer four answer true for every input. -/
import Derived.Test.YtjjmnoiiihcoiaaGreatDoorZGH
namespace Go.Proofs.Z
open Go Go.RowKit Go.Proofs Go.Ri Go.Proofs.Z.Fa
/-! CheckPath: contracts; the law FellPaths. -/
section
variable {G : Int} {l : List Value} {n : Nat} {q : List Value} {m : Nat} {a b fr to : Int}
theorem eqdec (a b : Int) : (a == b) = decide (a = b) := by by_cases h : a = b <;> simp [h]
end
section
variable (V : Val) {G : Int} {l : List Value} {n : Nat} {q : List Value} {m : Nat} {a b fr to : Int}
end
end Go.Proofs.Z
