/- A part of the proofs that the laws of layer four answer true for every input. -/
import Derived.Test.YtjjmnoiiihcoiaaGreatDoorZGX
namespace Go.Proofs.Z
open Go Go.RowKit Go.Proofs Go.Ri Go.Proofs.Z.Fa
/-! Reach of the specification: its contract. -/
def endM (fr to : Int) : Int := if to - fr > 5760 then fr + 5760 else to
theorem f_sub [Val] {a b c : RV} {m n r : Int} (ha : cv a = .int .i64 m) (hb : cv b = .int .i64 n) (hc : cv c = .int .i64 r) (hf : flat0 c = true) (hr : r = m - n) (h0 : -9000000000000000000 ≤ r) (h1 : r ≤ 9000000000000000000) : TETrue ⟨.bin .sub, a, b, c⟩ := by
  refine ⟨hf, ?_⟩
  show TCTrue _ (cv a) (cv b) (cv c)
  rw [ha, hb, hc]
  have := t_sub .i64 m n
  rw [← hr, IntWalk.i64_in _ (by omega)] at this
  exact this
section
variable {G : Int} {l : List Value} {n : Nat} {a : Nat} {fr to : Int}
end
end Go.Proofs.Z
