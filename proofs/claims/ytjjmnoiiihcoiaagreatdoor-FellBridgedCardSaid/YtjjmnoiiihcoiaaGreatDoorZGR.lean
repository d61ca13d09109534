/- A part of the proofs that the laws of layer four answer true for every input. -/
import Derived.Test.YtjjmnoiiihcoiaaGreatDoorZGQ
namespace Go.Proofs.Z
open Go Go.RowKit Go.Proofs Go.Ri Go.Proofs.Z.Fa
/-! Sets day by day. -/
theorem bit_hi {s i : Nat} (hs : s < 65536) (hi : 16 ≤ i) : s.testBit i = false :=
  Nat.testBit_lt_two_pow (Nat.lt_of_lt_of_le hs (by
    have := Nat.pow_le_pow_right (n := 2) (by decide) hi
    simpa using this))
section
variable {G : Int} {l : List Value} {n : Nat} {e : Nat → Bool} {S : Nat}
theorem gAB_lt (hva : validM G l n = true) {k : Nat} (hk : k < n) : gA' l k < 16 ∧ gB' l k < 16 := by
  obtain ⟨a0, a1, b0, b1, _, _⟩ := gate_range hva hk
  unfold gA' gB'
  omega
theorem clS_bit (hva : validM G l n = true) (hS : S < 65536) (x : Nat) : (clS l n e S).testBit x = clo n (gA' l) (gB' l) e (fun x => S.testBit x) x := by
  unfold clS
  rw [setN_bit]
  by_cases hx : x < 16
  · simp [hx]
  · have : clo n (gA' l) (gB' l) e (fun x => S.testBit x) x = false := by
      rw [Bool.eq_false_iff]
      intro h
      have := clo_min (u := fun x => decide (x < 16)) (fun y hy => by
        show decide (y < 16) = true
        rw [decide_eq_true_iff]
        rcases Nat.lt_or_ge y 16 with h | h
        · exact h
        · rw [bit_hi hS h] at hy; cases hy) (fun k hk _ => by
        have := gAB_lt hva hk
        show decide (gA' l k < 16) = decide (gB' l k < 16)
        rw [decide_eq_true this.1, decide_eq_true this.2]) h
      exact hx (of_decide_eq_true this)
    rw [this]
    simp
theorem clS_sub (hva : validM G l n = true) (hS : S < 65536) {x : Nat} (h : S.testBit x = true) : (clS l n e S).testBit x = true := by
  rw [clS_bit hva hS]
  exact clo_sub h
theorem clS_cl (hva : validM G l n = true) (hS : S < 65536) {k : Nat} (hk : k < n) (he : e k = true) : ldP l (clS l n e S) k = false := by
  unfold ldP
  rw [clS_bit hva hS, clS_bit hva hS, clo_cl hk he]
  simp
end
section
variable {G : Int} {l : List Value} {n : Nat} {S : Nat} {fr : Int}
end
end Go.Proofs.Z
