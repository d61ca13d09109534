/- A part of the proofs that the laws of layer four answer true for every input. -/
import Derived.Test.YtjjmnoiiihcoiaaGreatDoorZGH
import Derived.Test.YtjjmnoiiihcoiaaGreatDoorZLoop5
namespace Go.Proofs.Z
open Go Go.RowKit Go.Proofs Go.Ri Go.Proofs.Z.Fa
/-! endOf, foldOf, list of a set, first, leaving: contracts. -/
/-- An argument that stands for a value, in two worlds of names. -/
theorem nval_re {V V' : Val} {w : World} {x y : RV} {u v : Value} (fx : flat x = true) (fy : flat y = true) (hx : @cvF V x = v) (hy : @cvF V' y = v) (h : @Go.Ri.NVal V w x u) : @Go.Ri.NVal V' w y u := by
  have := @flat_of_nval V w x u fx h
  rw [this, hx, ← hy]
  exact @nval_of_flat V' w y fy
section
variable (V : Val) {G : Int} {l : List Value} {n : Nat} {d : Int} {s : Nat} {x y : RV}
/-! list -/
/-! first -/
/-! leaving -/
end
end Go.Proofs.Z
