/- A part of the proofs that the laws of layer four answer true for every input. -/
import Derived.Test.YtjjmnoiiihcoiaaGreatDoorZGQ
import Derived.Test.YtjjmnoiiihcoiaaGreatDoorZGK
namespace Go.Proofs.Z
open Go Go.RowKit Go.Proofs Go.Ri Go.Proofs.Z.Fa
/-! one and spread of the specification: contracts. -/
theorem bls_rep (n : Nat) : bls (fun _ => false) n = List.replicate n (.bool false) := by
  apply List.ext_getElem?
  intro m
  by_cases hm : m < n
  · rw [bls_get _ n m hm, List.getElem?_replicate, if_pos hm]
  · rw [List.getElem?_eq_none (by rw [bls_len]; omega), List.getElem?_eq_none (by simp; omega)]
theorem bls_congr {b c : Nat → Bool} {n : Nat} (h : ∀ i, i < n → b i = c i) : bls b n = bls c n := by
  apply List.ext_getElem?
  intro m
  by_cases hm : m < n
  · rw [bls_get _ n m hm, bls_get _ n m hm, h m hm]
  · rw [List.getElem?_eq_none (by rw [bls_len]; omega), List.getElem?_eq_none (by rw [bls_len]; omega)]
theorem bls_lx {V : Val} {b : Nat → Bool} {n : Nat} {i j : Nat} (hL : V.L i = bls b n) (_ : 0 ≤ V.I j) (h1 : (V.I j).toNat < n) : @LXTrue V ⟨i, j, [bR (b (V.I j).toNat)]⟩ := by
  refine ⟨rfl, ?_, ?_⟩
  · show (V.I j).toNat * 1 + 1 ≤ (V.L i).length
    rw [hL, bls_len]
    omega
  · show ((V.L i).drop ((V.I j).toNat * 1)).take 1 = [.bool (b (V.I j).toNat)]
    rw [hL, row1 _ (by rw [bls_len]; exact h1), List.getD_eq_getElem?_getD, bls_get b n _ h1]
    rfl
section
variable (V : Val) {G : Int} {l : List Value} {n : Nat} {x y : RV}
/-! spread -/
end
end Go.Proofs.Z
