/- A part of the proofs that the laws of layer four answer true for every input. -/
import Derived.Test.YtjjmnoiiihcoiaaGreatDoorZGV
import Derived.Test.YtjjmnoiiihcoiaaGreatDoorZGW
namespace Go.Proofs.Z
open Go Go.RowKit Go.Proofs Go.Ri Go.Proofs.Z.Fa
/-! Reach of the specification: runs. -/
noncomputable def oneE : QE := ⟨fOne, [fellR, sI 20], .slN 0 13 1, [some (.lst 13 tBool true)]⟩
noncomputable def rrE (v : Bool) (c : Nat) (s : Bool) : Tb := { T := agN c 8 ++ agX c s, LL := hLL, C := [⟨fValid, [fellR], bR v⟩] }
noncomputable def rrU (ne : Bool) : List QE := if ne then [⟨fOn, [fellR, sI 8], .slN 0 11 1, [some (.lst 11 tBool true)]⟩, ⟨fRSpread, [fellR, .slN 0 13 1, .slN 0 11 1], .slN 0 14 1, [some (.lst 14 tBool true)]⟩]
  else [⟨fOn, [fellR, sI 8], nilR, []⟩, ⟨fRSpread, [fellR, .slN 0 13 1, nilR], .slN 0 14 1, [some (.lst 14 tBool true)]⟩]
end Go.Proofs.Z
