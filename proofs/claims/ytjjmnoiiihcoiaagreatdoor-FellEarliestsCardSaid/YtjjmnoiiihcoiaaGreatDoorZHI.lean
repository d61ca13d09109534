/- A part of the proofs that the laws of layer four answer true for every input. -/
import Derived.Test.YtjjmnoiiihcoiaaGreatDoorZHH
namespace Go.Proofs.Z
open Go Go.RowKit Go.Proofs Go.Ri Go.Proofs.Z.Fa
/-! What is reached within sixteen years; the law FellEvers. -/
theorem fb_le {f : Nat → Bool} {M k : Nat} (hf : f k = false) : firstBad f M 0 ≤ k := by
  rcases Nat.lt_or_ge k (firstBad f M 0) with h | h
  · have := firstBad_pass f M 0 k (Nat.zero_le _) h
    rw [hf] at this
    cases this
  · exact h
theorem agCls_ok {G a b fr to : Int} (p0 : 0 ≤ a) (p1 : a < G) (p2 : 0 ≤ b) (p3 : b < G) (p4 : 0 ≤ fr) (p5 : fr ≤ 1048576) (p6 : fr ≤ to) (p7 : to ≤ 1048576) : agCls G a b fr to = 8 := fb_end fun j _ => by
  unfold agTest
  repeat' split
  all_goals exact decide_eq_true (by omega)
section
variable {G : Int} {l : List Value} {n S a b : Nat} {fr : Int}
end
end Go.Proofs.Z
