/- A part of the proofs that the laws of layer four answer true for every input. -/
import Derived.Test.YtjjmnoiiihcoiaaGreatDoorZHA
namespace Go.Proofs.Z
open Go Go.RowKit Go.Proofs Go.Ri Go.Proofs.Z.Fa
/-! Meeting of the specification: its contract; the law FellMeets. -/
section
variable {G : Int} {l : List Value} {n : Nat} {a b fr to : Int}
end
/-- A list of booleans that is empty, as nil. -/
theorem nil_nval {V : Val} {w : World} {i : Nat} {v : Value} (hnil : V.L i = []) (h : @Go.Ri.NVal V w nilR v) : @Go.Ri.NVal V w (.slN 0 i 1) v := by
  have h : v = Value.slice none 0 0 := h
  rw [h]
  refine ⟨none, 0, 0, rfl, fun h => absurd hnil h, by decide, ?_, Nat.le_refl _, fun a ha => by cases ha⟩
  rw [hnil]
  rfl
theorem nil_qn {V : Val} {f : FuncId} {d : RV} {i : Nat} {r : RV} {h : RH} {x : RV} (hnil : V.L i = []) (q : @QNTrue V ⟨f, [x, d, .slN 0 i 1], r, h⟩) : @QNTrue V ⟨f, [x, d, nilR], r, h⟩ := fun w hr vs hv => by
  refine q w hr vs ?_
  cases hv with
  | cons h1 h2 => cases h2 with
    | cons h2 h3 => cases h3 with
      | cons h3 h4 =>
        cases h4
        exact .cons h1 (.cons h2 (.cons (nil_nval hnil h3) .nil))
end Go.Proofs.Z
