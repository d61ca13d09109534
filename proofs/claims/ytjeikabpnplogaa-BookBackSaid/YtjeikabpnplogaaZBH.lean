/- A part of the proofs that the laws of layer eight answer true for every input. -/
import Derived.Test.YtjeikabpnplogaaZBG
import Derived.Test.YtjeikabpnplogaaZSR
namespace Go.Proofs.Z
open Go Go.RowKit Go.Proofs Go.Ri Go.Proofs.Z.Fa
/-! BookHashes answers true. -/
def saneX (f : FuncId) (vs : List Value) : Option Value := match Nat.beq f fSane with
  | true => match vs with
    | [] => some (.bool true)
    | _ => none
  | false => none
theorem saneX_true : XTrue saneX := by
  intro f vs v h
  unfold saneX at h
  split at h
  · rename_i hb
    split at h
    · cases h
      rw [Nat.eq_of_beq_eq_true hb]
      exact sane_ans
    · cases h
  · cases h
end Go.Proofs.Z
