/- A part of the proofs that the laws of layer three answer true for every input. -/
import Derived.Test.YtbacimjjelkfbaaGreatDoorZLoop3
namespace Go.Proofs.Z.Fa
open Go Go.RowKit Go.Proofs Go.Ri Go.Proofs.Z
/-! Facts of operations. -/
section
variable [Val] {a b c : RV} {k : IntKind} {m n : Int} {q : Bool}
theorem f_ieq (ha : cv a = .int k m) (hb : cv b = .int k n) (h : (m == n) = q) : TETrue ⟨.ieq, a, b, bR q⟩ := by
  refine ⟨rfl, ?_⟩
  show TCTrue _ (cv a) (cv b) (.bool q)
  rw [ha, hb, ← h]
  exact t_ieq k m n
theorem f_lss (ha : cv a = .int k m) (hb : cv b = .int k n) (h : decide (m < n) = q) : TETrue ⟨.bin .lss, a, b, bR q⟩ := by
  refine ⟨rfl, ?_⟩
  show TCTrue _ (cv a) (cv b) (.bool q)
  rw [ha, hb, ← h]
  exact t_lss k m n
theorem f_gtr (ha : cv a = .int k m) (hb : cv b = .int k n) (h : decide (m > n) = q) : TETrue ⟨.bin .gtr, a, b, bR q⟩ := by
  refine ⟨rfl, ?_⟩
  show TCTrue _ (cv a) (cv b) (.bool q)
  rw [ha, hb, ← h]
  exact t_gtr k m n
theorem f_geq (ha : cv a = .int k m) (hb : cv b = .int k n) (h : decide (m ≥ n) = q) : TETrue ⟨.bin .geq, a, b, bR q⟩ := by
  refine ⟨rfl, ?_⟩
  show TCTrue _ (cv a) (cv b) (.bool q)
  rw [ha, hb, ← h]
  exact t_geq k m n
theorem f_leq (ha : cv a = .int k m) (hb : cv b = .int k n) (h : decide (m ≤ n) = q) : TETrue ⟨.bin .leq, a, b, bR q⟩ := by
  refine ⟨rfl, ?_⟩
  show TCTrue _ (cv a) (cv b) (.bool q)
  rw [ha, hb, ← h]
  exact t_leq k m n
end
end Go.Proofs.Z.Fa
