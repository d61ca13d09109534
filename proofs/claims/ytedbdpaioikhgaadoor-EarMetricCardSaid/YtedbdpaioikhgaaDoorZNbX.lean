/- A part of the proofs that the laws of layer one answer true for every input. -/
import Derived.Test.YtedbdpaioikhgaaDoorZNbT
import Derived.Test.YtedbdpaioikhgaaDoorZHook
namespace Go.Proofs.Z
open Go Go.RowKit Go.Proofs Go.Ri W
/-! Two ways to say the order of ears. -/
theorem cmpI_W (a b : Int) : Z.cmpI a b = W.cmpI a b := rfl
theorem lex_fd (t u : Nat → Int) : ∀ (n i : Nat) (a b : List Int), W.lexI ((List.range' i n).map t ++ a) ((List.range' i n).map u ++ b) = if fd (eqP t u) i n = i + n then W.lexI a b else W.cmpI (t (fd (eqP t u) i n)) (u (fd (eqP t u) i n))
  | 0, i, a, b => by
    rw [if_pos (show fd (eqP t u) i 0 = i + 0 from rfl)]
    rfl
  | n + 1, i, a, b => by
    have h := (fd_spec (eqP t u) n (i + 1)).2.2
    rw [List.range'_succ, List.map_cons, List.map_cons, List.cons_append, List.cons_append, W.lexI_cons]
    by_cases e : t i = u i
    · have hp : eqP t u i = true := by unfold eqP; rw [e]; simp
      have ef : fd (eqP t u) i (n + 1) = fd (eqP t u) (i + 1) n := by show (if eqP t u i then _ else _) = _; rw [if_pos hp]
      rw [if_pos ((W.cmpI_zero _ _).2 e), lex_fd t u n (i + 1) a b, ef, show i + 1 + n = i + (n + 1) by omega]
    · have hp : eqP t u i = false := by unfold eqP; simpa using e
      have ef : fd (eqP t u) i (n + 1) = i := by show (if eqP t u i then _ else _) = _; rw [hp]; rfl
      rw [if_neg (fun z => e ((W.cmpI_zero _ _).1 z)), ef, if_neg (by omega)]
theorem bit_bI (t : Nat → Int) (i : Nat) : bit (bitY t i) = W.bI (t (9 + i)) := by
  unfold bitY W.bI
  by_cases h : t (9 + i) = 0
  · rw [if_pos h, h]; rfl
  · rw [if_neg h, show (t (9 + i) == 0) = false by simpa using h]; rfl
theorem cmpE_lex (t u : Nat → Int) : cmpE t (bitY t) u (bitY u) = W.lexI (W.rk t) (W.rk u) := by
  have h := lex_fd t u 9 0 [4 * W.bI (t 9) + 2 * W.bI (t 10) + W.bI (t 11)] [4 * W.bI (u 9) + 2 * W.bI (u 10) + W.bI (u 11)]
  have e : ∀ t : Nat → Int, hc (bitY t) = 4 * W.bI (t 9) + 2 * W.bI (t 10) + W.bI (t 11) := fun t => by
    unfold hc
    rw [bit_bI, bit_bI, bit_bI]
  unfold cmpE
  rw [e, e, Nat.zero_add] at *
  rw [W.lexI_one] at h
  exact h.symm
end Go.Proofs.Z
