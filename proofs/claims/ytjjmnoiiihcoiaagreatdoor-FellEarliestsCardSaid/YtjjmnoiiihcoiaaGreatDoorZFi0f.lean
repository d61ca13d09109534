/- A part of the proofs that the laws of layer four answer true for every input. -/
import Derived.Test.YtjjmnoiiihcoiaaGreatDoorZLoop6
namespace Go.Proofs.Z.Fa
open Go Go.RowKit Go.Proofs Go.Ri Go.Proofs.Z
/-! Facts of operations. -/
section
variable [Val] {a b c : RV} {k : IntKind} {m n : Int} {q : Bool}
theorem f_ieq (ha : cv a = .int k m) (hb : cv b = .int k n) (h : (m == n) = q) : TETrue ⟨.ieq, a, b, bR q⟩ := by
  refine ⟨rfl, ?_⟩
  show TCTrue _ (cv a) (cv b) (.bool q)
  rw [ha, hb, ← h]
  exact t_ieq k m n
theorem f_lss (ha : cv a = .int k m) (hb : cv b = .int k n) (h : decide (m < n) = q) : TETrue ⟨.bin .lss, a, b, bR q⟩ := by
  refine ⟨rfl, ?_⟩
  show TCTrue _ (cv a) (cv b) (.bool q)
  rw [ha, hb, ← h]
  exact t_lss k m n
theorem f_gtr (ha : cv a = .int k m) (hb : cv b = .int k n) (h : decide (m > n) = q) : TETrue ⟨.bin .gtr, a, b, bR q⟩ := by
  refine ⟨rfl, ?_⟩
  show TCTrue _ (cv a) (cv b) (.bool q)
  rw [ha, hb, ← h]
  exact t_gtr k m n
theorem f_geq (ha : cv a = .int k m) (hb : cv b = .int k n) (h : decide (m ≥ n) = q) : TETrue ⟨.bin .geq, a, b, bR q⟩ := by
  refine ⟨rfl, ?_⟩
  show TCTrue _ (cv a) (cv b) (.bool q)
  rw [ha, hb, ← h]
  exact t_geq k m n
theorem f_leq (ha : cv a = .int k m) (hb : cv b = .int k n) (h : decide (m ≤ n) = q) : TETrue ⟨.bin .leq, a, b, bR q⟩ := by
  refine ⟨rfl, ?_⟩
  show TCTrue _ (cv a) (cv b) (.bool q)
  rw [ha, hb, ← h]
  exact t_leq k m n
theorem f_add1 (ha : cv a = .int .i64 m) (hc : cv c = .int .i64 (m + 1)) (hf : flat0 c = true) (h0 : 0 ≤ m) (h1 : m ≤ 1000000000) : TETrue ⟨.bin .add, a, lI 1, c⟩ := by
  refine ⟨hf, ?_⟩
  show TCTrue _ (cv a) (.int .i64 1) (cv c)
  rw [ha, hc]
  have := t_add .i64 m 1
  rw [IntWalk.i64_in _ (by omega)] at this
  exact this
end
end Go.Proofs.Z.Fa
