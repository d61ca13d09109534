/- A part of the proofs that the laws of layer four answer true for every input. -/
import Derived.Test.YtjjmnoiiihcoiaaGreatDoorZNM
import Derived.Test.YtjjmnoiiihcoiaaGreatDoorZHH
import Derived.Test.YtjjmnoiiihcoiaaGreatDoorZLN
namespace Go.Proofs.Z
open Go Go.RowKit Go.Proofs Go.Ri Go.Proofs.Z.Fa
/-! The law FellMenger: what its calls answer. -/
theorem nil_an1 {V : Val} {f : FuncId} {d : RV} {i : Nat} {v : Value} (hnil : V.L i = []) (q : @AnsN V f [.slN 0 i 1, d] v) : @AnsN V f [nilR, d] v := fun w hr vs hv => by
  refine q w hr vs ?_
  cases hv with
  | cons h1 h2 =>
    refine .cons ?_ h2
    have h : _ = Value.slice none 0 0 := h1
    rw [h]
    refine ⟨none, 0, 0, rfl, fun h => absurd hnil h, by decide, ?_, Nat.le_refl _, fun a ha => by cases ha⟩
    rw [hnil]
    rfl
section
variable {G : Int} {l : List Value} {n a b : Nat}
end
end Go.Proofs.Z
