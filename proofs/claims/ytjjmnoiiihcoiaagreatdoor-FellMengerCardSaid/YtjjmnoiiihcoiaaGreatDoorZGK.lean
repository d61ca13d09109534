/- A part of the proofs that the laws of layer four answer true for every input. -/
import Derived.Test.YtjjmnoiiihcoiaaGreatDoorZGH
namespace Go.Proofs.Z
open Go Go.RowKit Go.Proofs Go.Ri Go.Proofs.Z.Fa
/-! CheckPath of both packages: runs. -/
/-- What is known of grazings (20, 21) and days (22, 23), one test behind the other. -/
def agT (i : Nat) (p : Bool) : List TE :=
  if i = 0 then [⟨.bin .lss, sI 20, lI 0, bR (!p)⟩, ⟨.bin .geq, sI 20, lI 0, bR p⟩]
  else if i = 1 then [⟨.bin .geq, sI 20, sI 0, bR (!p)⟩, ⟨.bin .lss, sI 20, sI 0, bR p⟩]
  else if i = 2 then [⟨.bin .lss, sI 21, lI 0, bR (!p)⟩, ⟨.bin .geq, sI 21, lI 0, bR p⟩]
  else if i = 3 then [⟨.bin .geq, sI 21, sI 0, bR (!p)⟩, ⟨.bin .lss, sI 21, sI 0, bR p⟩]
  else if i = 4 then [⟨.bin .lss, sI 22, lI 0, bR (!p)⟩, ⟨.bin .geq, sI 22, lI 0, bR p⟩]
  else if i = 5 then [⟨.bin .gtr, sI 22, lI 1048576, bR (!p)⟩, ⟨.bin .leq, sI 22, lI 1048576, bR p⟩]
  else if i = 6 then [⟨.bin .lss, sI 23, sI 22, bR (!p)⟩]
  else [⟨.bin .gtr, sI 23, lI 1048576, bR (!p)⟩, ⟨.bin .leq, sI 23, lI 1048576, bR p⟩]
end Go.Proofs.Z

namespace Go.Proofs.Z
open Go Go.RowKit Go.Proofs Go.Ri Go.Proofs.Z.Fa
/-! CheckPath: contracts; the law FellPaths. -/
section
variable {G : Int} {l : List Value} {n : Nat} {q : List Value} {m : Nat} {a b fr to : Int}
theorem nd' (a b : Int) : decide (a < b) = !decide (b ≤ a) := by by_cases h : a < b <;> simp [h] <;> omega
theorem ng' (a b : Int) : decide (a ≥ b) = !decide (a < b) := by by_cases h : a ≥ b <;> simp [h] <;> omega
theorem eqdec (a b : Int) : (a == b) = decide (a = b) := by by_cases h : a = b <;> simp [h]
end
section
variable (V : Val) {G : Int} {l : List Value} {n : Nat} {q : List Value} {m : Nat} {a b fr to : Int}
end
end Go.Proofs.Z
