/- A part of the proofs that the laws of layer four answer true for every input. -/
import Derived.Test.YtjjmnoiiihcoiaaGreatDoorZGQ
import Derived.Test.YtjjmnoiiihcoiaaGreatDoorZGK
import Derived.Test.YtjjmnoiiihcoiaaGreatDoorZGH
import Derived.Lib.TrailingZeros
namespace Go.Proofs.Z
open Go Go.RowKit Go.Proofs Go.Ri Go.Proofs.Z.Fa
/-! without, same: runs. 40 the indices, 45 how many, 2 the place, 7 the next one, 32 the index, 33 to 36 the gate; lists: 0 as it came, 41 so far, 42 then. -/
abbrev fSame : Nat := 53
/-! same, of two fells that hold one list -/
end Go.Proofs.Z

namespace Go.Proofs.Z
open Go Go.RowKit Go.Proofs Go.Ri Go.Proofs.Z.Fa
/-! Gates that are never open: the lists; contracts of without and same. -/
theorem fell_nvalG {V V' : Val} {w : World} {v : Value} {i j : Nat} (h0 : V.I 0 = V'.I 0) (hi : V.L i = V'.L j) (h : @Go.Ri.NVal V w (.agg [sI 0, .slN 0 i 4]) v) : @Go.Ri.NVal V' w (.agg [sI 0, .slN 0 j 4]) v := by
  obtain ⟨us, e, h3⟩ := h
  refine ⟨us, e, ?_⟩
  generalize us.toList = ul at h3
  cases h3 with
  | cons g1 g2 => cases g2 with
    | cons g2 g3 =>
      cases g3
      have g1 : _ = Value.int .i64 (V.I 0) := g1
      obtain ⟨a, m, cap, k1, k2, k3, k4, k5, k6⟩ := g2
      rw [hi] at k2 k4 k6
      refine .cons ?_ (.cons ⟨a, m, cap, k1, k2, k3, k4, k5, k6⟩ .nil)
      rw [g1, h0]
      rfl
section
variable (V : Val) {G : Int} {l : List Value} {n : Nat}
/-! same -/
end
end Go.Proofs.Z
