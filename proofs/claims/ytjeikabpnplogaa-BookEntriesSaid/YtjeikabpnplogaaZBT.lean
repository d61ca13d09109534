/- A part of the proofs that the laws of layer eight answer true for every input. -/
import Derived.Test.YtjeikabpnplogaaZBR
namespace Go.Proofs.Z
open Go Go.RowKit Go.Proofs Go.Ri Go.Proofs.Z.Fa
/-! Verify of both packages: runs. 200 to 231 a stick, 700 the image of a secret. -/
def stkC : List RV := (List.range 32).map fun i => sU (200 + i)
def selC : List RV := (List.range 16).map fun i => sU (300 + i)
noncomputable def vp (k : Nat) : St := ⟨patW [(2, .ptr 0 0), (5, sI 400), (18, .agg selC), (19, lI (k : Nat))] 35 0, [some (.cells stkC 30 false false)]⟩
end Go.Proofs.Z

namespace Go.Proofs.Z
open Go Go.RowKit Go.Proofs Go.Ri Go.Proofs.Z.Fa
/-! Verify of both packages: contracts. -/
def vI (st : Nat → Int) (im : Int) (p n x : Int) (m : Nat) (se : Nat → Int) (d : Int) (k : Nat) : Int := if k = 700 then im else if 200 ≤ k ∧ k < 232 then st (k - 200) else snI 0 p n x m se se d k
section
variable {st : Nat → Int} {im p n x : Int} {s : ByteArray} {se : Nat → Int} {d : Int}
theorem vI_o (k : Nat) (h1 : k ≠ 700) (h2 : k < 200 ∨ 232 ≤ k) : vI st im p n x s.size se d k = snI 0 p n x s.size se se d k := by
  unfold vI
  rw [if_neg h1, if_neg (by omega)]
theorem v0 : vI st im p n x s.size se d 0 = x := by rw [vI_o _ (by omega) (by omega)]; simp [snI]
end
end Go.Proofs.Z
