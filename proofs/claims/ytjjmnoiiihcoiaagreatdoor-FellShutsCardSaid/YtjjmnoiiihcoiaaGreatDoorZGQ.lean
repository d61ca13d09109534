/- A part of the proofs that the laws of layer four answer true for every input. -/
import Derived.Test.YtjjmnoiiihcoiaaGreatDoorZGM
namespace Go.Proofs.Z
open Go Go.RowKit Go.Proofs Go.Ri Go.Proofs.Z.Fa
/-! spread: its contract. -/
def usP (l : List Value) (k : Nat) : Bool := !(gtF l k == gtT l k)
def gA' (l : List Value) (k : Nat) : Nat := (gtA l k).toNat
def gB' (l : List Value) (k : Nat) : Nat := (gtB l k).toNat
/-- What is reached from the set s by the gates that serve. -/
noncomputable def clS (l : List Value) (n : Nat) (e : Nat → Bool) (s : Nat) : Nat := setN (clo n (gA' l) (gB' l) e (fun x => s.testBit x)) 16
def cnt (S : Nat → Bool) : Nat → Nat
  | 0 => 0
  | k + 1 => cnt S k + if S k then 1 else 0
theorem cnt_le (S : Nat → Bool) : ∀ k, cnt S k ≤ k
  | 0 => Nat.le_refl _
  | k + 1 => by
    have := cnt_le S k
    unfold cnt
    split <;> omega
theorem cnt_mono {S T : Nat → Bool} (h : ∀ x, S x = true → T x = true) : ∀ k, cnt S k ≤ cnt T k
  | 0 => Nat.le_refl _
  | k + 1 => by
    have h1 := cnt_mono h k
    unfold cnt
    cases hS : S k
    · simp only [Bool.false_eq_true, if_false]
      split <;> omega
    · rw [if_pos rfl, if_pos (h k hS)]
      omega
theorem cnt_lt {S T : Nat → Bool} (h : ∀ x, S x = true → T x = true) {i : Nat} (h1 : S i = false) (h2 : T i = true) : ∀ k, i < k → cnt S k < cnt T k
  | k + 1, hi => by
    unfold cnt
    by_cases hk : i = k
    · subst hk
      rw [h1, h2]
      have := cnt_mono h i
      simp
      omega
    · have := cnt_lt h h1 h2 k (by omega)
      cases hS : S k
      · simp only [Bool.false_eq_true, if_false]
        split <;> omega
      · rw [if_pos rfl, if_pos (h k hS)]
        omega
theorem gate_range {G : Int} {l : List Value} {n : Nat} (hv : validM G l n = true) {k : Nat} (hk : k < n) : 0 ≤ gtA l k ∧ gtA l k < 16 ∧ 0 ≤ gtB l k ∧ gtB l k < 16 ∧ gtA l k < G ∧ gtB l k < G := by
  have h := (validM_iff _ _ _).1 hv
  have := (gOk_iff _ _ _ _ _).1 (okL_at h.2.2.2 hk)
  omega
theorem pow_lt16 {a : Nat} (h : a < 16) : 2 ^ a < 65536 := by
  have := Nat.pow_lt_pow_right (a := 2) (by decide) h
  simpa using this
section
variable (V : Val) {G : Int} {l : List Value} {n : Nat} {d : Int}
end
end Go.Proofs.Z

namespace Go.Proofs.Z
open Go Go.RowKit Go.Proofs Go.Ri Go.Proofs.Z.Fa
/-! endOf, foldOf, list of a set, first, leaving: contracts. -/
/-- An argument that stands for a value, in two worlds of names. -/
theorem nval_re {V V' : Val} {w : World} {x y : RV} {u v : Value} (fx : flat x = true) (fy : flat y = true) (hx : @cvF V x = v) (hy : @cvF V' y = v) (h : @Go.Ri.NVal V w x u) : @Go.Ri.NVal V' w y u := by
  have := @flat_of_nval V w x u fx h
  rw [this, hx, ← hy]
  exact @nval_of_flat V' w y fy
section
variable (V : Val) {G : Int} {l : List Value} {n : Nat} {d : Int} {s : Nat} {x y : RV}
/-! list -/
/-! first -/
/-! leaving -/
end
end Go.Proofs.Z
