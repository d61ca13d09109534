/- A part of the proofs that the laws of layer four answer true for every input. -/
import Derived.Test.YtjjmnoiiihcoiaaGreatDoorZKC
import Derived.Test.YtjjmnoiiihcoiaaGreatDoorZGY
import Derived.Test.YtjjmnoiiihcoiaaGreatDoorZHH
import Derived.Test.YtjjmnoiiihcoiaaGreatDoorZGH
namespace Go.Proofs.Z
open Go Go.RowKit Go.Proofs Go.Ri Go.Proofs.Z.Fa
/-! Parts, Together: contracts; the law FellParts. -/
theorem nil_qn2 {V : Val} {f : FuncId} {d : RV} {i : Nat} {r : RV} {h : RH} (hnil : V.L i = []) (q : @QNTrue V ⟨f, [d, .slN 0 i 1], r, h⟩) : @QNTrue V ⟨f, [d, nilR], r, h⟩ := fun w hr vs hv => by
  refine q w hr vs ?_
  cases hv with
  | cons h1 h2 => cases h2 with
    | cons h2 h3 =>
      cases h3
      refine .cons h1 (.cons ?_ .nil)
      have h : _ = Value.slice none 0 0 := h2
      rw [h]
      refine ⟨none, 0, 0, rfl, fun h => absurd hnil h, by decide, ?_, Nat.le_refl _, fun a ha => by cases ha⟩
      rw [hnil]
      rfl
section
variable (V : Val) {G : Int} {l : List Value} {n : Nat} {a b d : Int}
/-! Together -/
end
/-! The law. -/
end Go.Proofs.Z
