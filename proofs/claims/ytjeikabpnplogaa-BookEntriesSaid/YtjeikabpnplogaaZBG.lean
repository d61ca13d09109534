/- A part of the proofs that the laws of layer eight answer true for every input. -/
import Derived.Test.YtjeikabpnplogaaZBD
namespace Go.Proofs.Z
open Go Go.RowKit Go.Proofs Go.Ri Go.Proofs.Z.Fa
/-! MakeStick of both packages: contracts. -/
section
variable {x p n : Int} {se im : Nat → Int}
end
@[irreducible] def z0 (_ : Nat) : Int := 0
theorem w64_in (m : Int) : 0 ≤ w64 m ∧ w64 m < 18446744073709551616 := by
  show 0 ≤ m % 18446744073709551616 ∧ m % 18446744073709551616 < 18446744073709551616
  omega
theorem hashM_in (s : ByteArray) : 0 ≤ hashM s ∧ hashM s < 18446744073709551616 := by
  unfold hashM hend hxor
  exact w64_in _
end Go.Proofs.Z
