/- A part of the proofs that the laws of layer four answer true for every input. -/
import Derived.Test.YtjjmnoiiihcoiaaGreatDoorZHQ
namespace Go.Proofs.Z
open Go Go.RowKit Go.Proofs Go.Ri Go.Proofs.Z.Fa
/-! closing and across: runs and contracts. -/
/-! across -/
abbrev fAcross : Nat := 88
noncomputable def acT (pa pb : Bool) : List TE := [⟨.ieq, sI 8, sI 3, bR pa⟩, ⟨.ieq, sI 8, sI 4, bR pb⟩]
noncomputable def acR (pa pb : Bool) : RV := if pa then .tup [sI 4, lI 1] else if pb then .tup [sI 3, lI (-1)] else .tup [lI 0, lI 0]
noncomputable def acRun (pa pb : Bool) : Bool := runOK noX (acT pa pb) [] 1000 20 fAcross [.agg [sI 3, sI 4, sI 5, sI 6], sI 8] (acR pa pb)
set_option maxRecDepth 100000 in
theorem ac_run : (all2 fun pa => all2 fun pb => acRun pa pb) = true := by kernel_rfl
def acV (a b x : Int) : Value := if x = a then .tuple #[.int .i64 b, .int .i64 1] else if x = b then .tuple #[.int .i64 a, .int .i64 (-1)] else .tuple #[.int .i64 0, .int .i64 0]
theorem across_ans (a b fr to x : Int) : Ans fAcross [gateV a b fr to, .int .i64 x] (acV a b x) := by
  letI V : Val := VE (fun i => if i = 3 then a else if i = 4 then b else if i = 5 then fr else if i = 6 then to else x) (fun _ => false)
  have := @ans V noX _ _ noX_true (fa (f_ieq (k := .i64) (m := x) (n := a) rfl rfl (eqdec _ _)) (fa (f_ieq (k := .i64) (m := x) (n := b) rfl rfl (eqdec _ _)) fz)) fz _ _ _ _ _ (all2_all (all2_all ac_run (decide (x = a))) (decide (x = b)))
  have e : acV a b x = @cvF V (acR (decide (x = a)) (decide (x = b))) := by
    unfold acV acR
    by_cases ha : x = a
    · rw [if_pos ha, decide_eq_true ha]
      rfl
    · rw [if_neg ha, decide_eq_false ha]
      by_cases hb : x = b
      · rw [if_pos hb, decide_eq_true hb]
        rfl
      · rw [if_neg hb, decide_eq_false hb]
        rfl
  rw [e]
  exact this
end Go.Proofs.Z
