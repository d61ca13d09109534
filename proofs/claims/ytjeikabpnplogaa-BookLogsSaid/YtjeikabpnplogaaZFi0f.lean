/- A part of the proofs that the laws of layer eight answer true for every input. -/
import Derived.Test.YtjeikabpnplogaaZLoop5
namespace Go.Proofs.Z.Fa
open Go Go.RowKit Go.Proofs Go.Ri Go.Proofs.Z
/-! Facts of operations. -/
section
variable [Val] {a b c : RV} {k : IntKind} {m n : Int} {q : Bool}
theorem f_ieq (ha : cv a = .int k m) (hb : cv b = .int k n) (h : (m == n) = q) : TETrue ⟨.ieq, a, b, bR q⟩ := by
  refine ⟨rfl, ?_⟩
  show TCTrue _ (cv a) (cv b) (.bool q)
  rw [ha, hb, ← h]
  exact t_ieq k m n
theorem f_lss (ha : cv a = .int k m) (hb : cv b = .int k n) (h : decide (m < n) = q) : TETrue ⟨.bin .lss, a, b, bR q⟩ := by
  refine ⟨rfl, ?_⟩
  show TCTrue _ (cv a) (cv b) (.bool q)
  rw [ha, hb, ← h]
  exact t_lss k m n
theorem f_gtr (ha : cv a = .int k m) (hb : cv b = .int k n) (h : decide (m > n) = q) : TETrue ⟨.bin .gtr, a, b, bR q⟩ := by
  refine ⟨rfl, ?_⟩
  show TCTrue _ (cv a) (cv b) (.bool q)
  rw [ha, hb, ← h]
  exact t_gtr k m n
theorem f_geq (ha : cv a = .int k m) (hb : cv b = .int k n) (h : decide (m ≥ n) = q) : TETrue ⟨.bin .geq, a, b, bR q⟩ := by
  refine ⟨rfl, ?_⟩
  show TCTrue _ (cv a) (cv b) (.bool q)
  rw [ha, hb, ← h]
  exact t_geq k m n
theorem f_leq (ha : cv a = .int k m) (hb : cv b = .int k n) (h : decide (m ≤ n) = q) : TETrue ⟨.bin .leq, a, b, bR q⟩ := by
  refine ⟨rfl, ?_⟩
  show TCTrue _ (cv a) (cv b) (.bool q)
  rw [ha, hb, ← h]
  exact t_leq k m n
theorem f_len {s : ByteArray} (ha : cv a = .string s) (hb : cv b = .int .i64 (s.data.toList.length : Nat)) (hf : flat0 b = true) : TETrue ⟨.len, a, a, b⟩ := ⟨hf, s, ha, hb⟩
theorem f_idx {s : ByteArray} {j : Nat} (ha : cv a = .string s) (hb : cv b = .int .i64 (j : Nat)) (hc : cv c = .int .u8 ((s.data.toList.getD j 0).toNat : Nat)) (hf : flat0 c = true) (hj : j < s.data.toList.length) : TETrue ⟨.idx, a, b, c⟩ := by
  refine ⟨hf, s, .i64, (j : Int), s.data.toList.getD j 0, ha, hb, by omega, ?_, hc⟩
  rw [Int.toNat_natCast, List.getD_eq_getElem?_getD, List.getElem?_eq_getElem hj]
  rfl
theorem f_sadd {x y : ByteArray} (ha : cv a = .string x) (hb : cv b = .string y) (hc : cv c = .string (x ++ y)) (hf : flat0 c = true) (h : x.size + y.size ≤ 1000000000) : TETrue ⟨.bin .add, a, b, c⟩ := by
  refine ⟨hf, ?_⟩
  show TCTrue _ (cv a) (cv b) (cv c)
  rw [ha, hb, hc]
  intro P ty p q w
  have hg : (eqGuard .add ty p q (.string x) (.string y)).run P w = .ok () w := guard_other (by simp) (by simp) w
  have hb : binOp .add ty (.string x) (.string y) = Op.stringOp .add x y := rfl
  have hmax : IntKind.i64.max = 9223372036854775807 := rfl
  have hno : ¬ (9223372036854775807 < (x.size : Int) + (y.size : Int)) := by omega
  simp [hg, hb, Op.stringOp, hmax, hno]
end
end Go.Proofs.Z.Fa
