/- A part of the proofs that the laws of layer four answer true for every input. -/
import Derived.Test.YtjjmnoiiihcoiaaGreatDoorZKC
import Derived.Test.YtjjmnoiiihcoiaaGreatDoorZGY
import Derived.Test.YtjjmnoiiihcoiaaGreatDoorZHH
import Derived.Test.YtjjmnoiiihcoiaaGreatDoorZGH
namespace Go.Proofs.Z
open Go Go.RowKit Go.Proofs Go.Ri Go.Proofs.Z.Fa
/-! Parts, Together: contracts; the law FellParts. -/
theorem srv_false (l : List Value) (d : Int) : srv false l d = usP l := funext fun _ => if_neg (by decide)
noncomputable def ptAns (e : Int) : RV × RH := if e = 0 then (.tup [.slN 0 20 1, lI 0], [some (.lstL 20 tInts 1)]) else (tupN e, [])
def ptNm (G : Int) (l : List Value) (n : Nat) (d : Int) (P O : List Value) : Nm := ⟨fun i => if i = 0 then G else if i = 1 then (n : Int) else d, ny, fun _ => ⟨#[]⟩, fun i => if i = 0 then l else if i = 11 then O else P⟩
section
variable (V : Val) {G : Int} {l : List Value} {n : Nat} {a b d : Int}
/-! Together -/
end
/-! The law. -/
end Go.Proofs.Z
