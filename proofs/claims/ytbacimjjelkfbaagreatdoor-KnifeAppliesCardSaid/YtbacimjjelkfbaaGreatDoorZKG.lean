/- A part of the proofs that the laws of layer three answer true for every input. -/
import Derived.Test.YtbacimjjelkfbaaGreatDoorZKE
namespace Go.Proofs.Z
open Go Go.RowKit Go.Proofs Go.Ri Go.Proofs.Z.Fa
/-! Steps: Check is the same, Apply answers the same in both packages. -/
def Stp3 (c : Nat → Int) : Prop := ((c 0 = 1 ∨ c 0 = 5) ∧ c 1 = 0 ∧ c 2 = 0) ∨ (c 0 = 4 ∧ c 1 = 0 ∧ 0 ≤ c 2 ∧ c 2 ≤ 2) ∨
  (0 ≤ c 1 ∧ c 1 ≤ 1 ∧ 0 ≤ c 2 ∧ ((c 0 = 2 ∧ c 2 ≤ 2) ∨ (c 0 = 3 ∧ c 2 ≤ 1) ∨ (c 0 = 6 ∧ c 2 ≤ 3) ∨ (c 0 = 7 ∧ c 2 ≤ 3)))
instance instStp3 (c : Nat → Int) : Decidable (Stp3 c) := by unfold Stp3; infer_instance
section
variable (V : Val)
end
section
variable (x : Nat → Int) (y : Nat → Bool) (c : Nat → Int)
end
end Go.Proofs.Z
