/- A part of the proofs that the laws of layer four answer true for every input. -/
import Derived.Test.YtjjmnoiiihcoiaaGreatDoorZHH
namespace Go.Proofs.Z
open Go Go.RowKit Go.Proofs Go.Ri Go.Proofs.Z.Fa
/-! Sets day by day: a year later; behind one another; point by point. -/
section
variable {G : Int} {l : List Value} {n S : Nat} {fr : Int}
theorem bit_lt {s y : Nat} (hs : s < 65536) (h : s.testBit y = true) : y < 16 := by
  rcases Nat.lt_or_ge y 16 with h1 | h1
  · exact h1
  · rw [bit_hi hs h1] at h
    cases h
end
end Go.Proofs.Z
