/- A part of the proofs that the laws of layer four answer true for every input. -/
import Derived.Test.YtjjmnoiiihcoiaaGreatDoorZGD
namespace Go.Proofs.Z
open Go Go.RowKit Go.Proofs Go.Ri Go.Proofs.Z.Fa
/-! Open gates: runs. -/
abbrev fList : Nat := 71
/-! OpenGates of package fell -/
/-! on -/
/-! list -/
/-! ints, of two slices that hold one list -/
/-! OpenGates of the specification -/
/-! Open -/
/-! YearDay -/
end Go.Proofs.Z

namespace Go.Proofs.Z
open Go Go.RowKit Go.Proofs Go.Ri Go.Proofs.Z.Fa
/-! Open gates: contracts. -/
/-! OpenOn -/
theorem fell_nval1 {V V' : Val} {w : World} {v : Value} (h0 : V.I 0 = V'.I 0) (hi : V.L 0 = V'.L 0) (h : @Go.Ri.NVal V w fellR v) : @Go.Ri.NVal V' w fellR v := by
  cases fell_nval h0 hi (.cons h .nil : All2 (@Go.Ri.NVal V w) [fellR] [v]) with
  | cons h1 _ => exact h1
/-- The names in a loop that gathers. -/
def hnm (G : Int) (l : List Value) (n k : Nat) (x : Nat → Int) (y : Nat → Bool) (p : Nat → Bool) (cells : Nat → List Value) : Nm := gnm G l n k x y (fun i => if i = 9 then gl p cells k else if i = 10 then gl p cells (k + 1) else [])
section
variable (V : Val) {G : Int} {l : List Value} {n : Nat} {d : Int}
end
end Go.Proofs.Z

namespace Go.Proofs.Z
open Go Go.RowKit Go.Proofs Go.Ri Go.Proofs.Z.Fa
/-! Open, YearDay, Check of the specification: contracts; FellDays. -/
def saneX (f : FuncId) (vs : List Value) : Option Value := match Nat.beq f fSane with
  | true => match vs with
    | [] => some (.bool true)
    | _ => none
  | false => none
theorem saneX_true : XTrue saneX := by
  intro f vs v h
  unfold saneX at h
  split at h
  · rename_i hf
    split at h
    · obtain rfl := Nat.eq_of_beq_eq_true hf
      cases h
      exact sane_ans
    · cases h
  · cases h
/-! Check of the specification -/
section
variable (V : Val) {G : Int} {l : List Value} {n : Nat} {d : Int}
end
/-! YearDay -/
/-! Open -/
section
variable (V : Val) {G : Int} {l : List Value} {n : Nat} {g d : Int}
end
end Go.Proofs.Z
