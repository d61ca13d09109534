/- A part of the proofs that the laws of layer four answer true for every input. -/
import Derived.Test.YtjjmnoiiihcoiaaGreatDoorZGY
import Derived.Test.YtjjmnoiiihcoiaaGreatDoorZGH
import Derived.Lib.TrailingZeros
namespace Go.Proofs.Z
open Go Go.RowKit Go.Proofs Go.Ri Go.Proofs.Z.Fa
/-! The least grazing of a set; meetings. -/
theorem fb_eq {f : Nat → Bool} {M k : Nat} (h : ∀ j, j < k → f j = true) (hk : k < M) (hf : f k = false) : firstBad f M 0 = k := by
  rcases Nat.lt_trichotomy (firstBad f M 0) k with h1 | h1 | h1
  · have := firstBad_fail f M 0 (by omega)
    rw [h _ h1] at this
    cases this
  · exact h1
  · have := firstBad_pass f M 0 k (Nat.zero_le _) h1
    rw [hf] at this
    cases this
theorem fb_end {f : Nat → Bool} {M : Nat} (h : ∀ j, j < M → f j = true) : firstBad f M 0 = M := by
  have h1 := firstBad_le f M 0
  rcases Nat.lt_or_ge (firstBad f M 0) M with h2 | h2
  · have := firstBad_fail f M 0 (by omega)
    rw [h _ h2] at this
    cases this
  · omega
section
variable {G : Int} {l : List Value} {n S0 T0 s t : Nat} {fr to D : Int} {fresh : Bool}
theorem lv_next (hva : validM G l n = true) {d : Int} (hd : 0 ≤ d) (S : Nat) (hS : S < 65536) (hm : lvM l (dayS l n S d) d n ≤ 1048576) : d + 1 ≤ lvM l (dayS l n S d) d n ∧ ∃ k, k < n ∧ ldP l (dayS l n S d) k = true ∧ odP l (lvM l (dayS l n S d) d n) k = true := by
  obtain ⟨h1, k', hk', hl', ho'⟩ := lv_open (S := dayS l n S d) hva hd hm
  refine ⟨?_, k', hk', hl', ho'⟩
  have hne : lvM l (dayS l n S d) d n ≠ d := by
    intro he
    rw [he] at ho'
    have := clS_cl (e := odP l d) hva hS hk' ho'
    unfold dayS at hl'
    rw [this] at hl'
    cases hl'
  omega
end
end Go.Proofs.Z
