/- A part of the proofs that the laws of layer one answer true for every input. -/
import Derived.Test.YtedbdpaioikhgaaDoorZValA
namespace Go.Proofs.Z
open Go Go.RowKit Go.Proofs Go.Ri
def cmpI (x y : Int) : Int := if x < y then -1 else if x > y then 1 else 0
/-- 0: less; 1: the same; 2: greater. -/
def scl (a b : Int) : Nat := if a < b then 0 else if a > b then 2 else 1
def sgn (c : Nat) : Int := if Nat.beq c 0 then -1 else if Nat.beq c 2 then 1 else 0
theorem sgn_scl (a b : Int) : sgn (scl a b) = cmpI a b := by
  unfold scl cmpI
  split
  · rfl
  · split <;> rfl
theorem scl_lt (a b : Int) : scl a b < 3 := by
  unfold scl
  split
  · omega
  · split <;> omega
def entS (i j c : Nat) : List TE := [⟨.bin .lss, sI i, sI j, bR (Nat.beq c 0)⟩, ⟨.bin .gtr, sI i, sI j, bR (Nat.beq c 2)⟩]
theorem entS_true [Val] (i j : Nat) : ∀ e ∈ entS i j (scl (Val.I i) (Val.I j)), TETrue e := by
  intro e he
  have h0 : Nat.beq (scl (Val.I i) (Val.I j)) 0 = decide (Val.I i < Val.I j) := by
    unfold scl
    by_cases h : Val.I i < Val.I j
    · rw [if_pos h, decide_eq_true h]; rfl
    · rw [if_neg h, decide_eq_false h]
      split <;> rfl
  have h2 : Nat.beq (scl (Val.I i) (Val.I j)) 2 = decide (Val.I i > Val.I j) := by
    unfold scl
    by_cases h : Val.I i < Val.I j
    · rw [if_pos h, decide_eq_false (by omega)]; rfl
    · rw [if_neg h]
      by_cases h3 : Val.I i > Val.I j
      · rw [if_pos h3, decide_eq_true h3]; rfl
      · rw [if_neg h3, decide_eq_false h3]; rfl
  simp only [entS, List.mem_cons, List.not_mem_nil, or_false] at he
  rcases he with rfl | rfl
  · exact ⟨rfl, by rw [h0]; exact t_lss .i64 (Val.I i) (Val.I j)⟩
  · exact ⟨rfl, by rw [h2]; exact t_gtr .i64 (Val.I i) (Val.I j)⟩
noncomputable def all3 (f : Nat → Bool) : Bool := match f 0 with
  | true => match f 1 with
    | true => f 2
    | false => false
  | false => false
theorem all3_lt {f : Nat → Bool} (h : all3 f = true) (c : Nat) (hc : c < 3) : f c = true := by
  unfold all3 at h
  split at h
  · split at h
    · match c, hc with
      | 0, _ => assumption
      | 1, _ => assumption
      | 2, _ => exact h
    · cases h
  · cases h
noncomputable def cmp0Run (f c : Nat) : Bool := runOK noX (entS 0 1 c) [] 1000 10 f [sI 0, sI 1] (lI (sgn c))
set_option maxRecDepth 100000 in
theorem cmp0_run : (all3 (cmp0Run fCmp)) = true := by kernel_rfl
theorem cmp0_ans (a b : Int) : Ans fCmp [intV a, intV b] (intV (cmpI a b)) := by
  have := @ans (VE (fun i => if i = 0 then a else b) fun _ => false) noX _ [] noX_true (@entS_true (VE (fun i => if i = 0 then a else b) fun _ => false) 0 1) (by intro e he; cases he) _ _ _ _ _ (all3_lt cmp0_run (scl a b) (scl_lt a b))
  rw [show (lI (sgn (scl a b))) = lI (cmpI a b) by rw [sgn_scl]] at this
  exact this
def bit (b : Bool) : Int := if b then 1 else 0
def hc (y : Nat → Bool) : Int := 4 * bit (y 0) + 2 * bit (y 1) + bit (y 2)
noncomputable def hcRun (a b c : Bool) : Bool := runOK noX [] [] 1000 10 fHolesCode [.agg [bR a, bR b, bR c]] (lI (4 * bit a + 2 * bit b + bit c))
set_option maxRecDepth 100000 in
theorem hc_run : (all2 fun a => all2 fun b => all2 fun c => hcRun a b c) = true := by kernel_rfl
def holesF (y : Nat → Bool) : Value := .agg #[.bool (y 0), .bool (y 1), .bool (y 2)]
theorem hc_ans (y : Nat → Bool) : Ans fHolesCode [holesF y] (intV (hc y)) :=
  @ans V0 noX _ [] noX_true (by intro e he; cases he) (by intro e he; cases he) _ _ _ _ _ (all2_all (all2_all (all2_all hc_run (y 0)) (y 1)) (y 2))
/-- The twelve values of an ear, as whole numbers. -/
def k12 (x : Nat → Int) (y : Nat → Bool) : Nat → Int := fun i => if i < 9 then x i else bit (y (i - 9))
def yC (f n m c : Nat) : List YE := (List.range (Nat.min (m + 1) n)).map fun j => ⟨f, [sI j, sI (20 + j)], lI (if Nat.blt j m then 0 else sgn c)⟩
def holesR (k : Nat) : RV := .agg [sB k, sB (k + 1), sB (k + 2)]
noncomputable def cmpRun (m c : Nat) : Bool := match Nat.beq m 9 with
  | false => runOK noX (eqs 0 20 9 m) (yC fCmp 9 m c) 1000 20 fCompare [earR 0, earR 20] (lI (sgn c))
  | true => runOK noX (eqs 0 20 9 m) (yC fCmp 9 m c ++ [⟨fHolesCode, [holesR 0], sI 50⟩, ⟨fHolesCode, [holesR 20], sI 51⟩, ⟨fCmp, [sI 50, sI 51], sI 52⟩]) 1000 20 fCompare [earR 0, earR 20] (sI 52)
end Go.Proofs.Z
