/- A part of the proof that EarChecks answers true for every input. -/
import Derived.Test.YtedbdpaioikhgaaGreatDoorZSane
namespace Go.Proofs.Z
open Go Go.RowKit Go.Proofs Go.Ri
theorem saneX_true : XTrue saneX := by
  intro f vs v h
  unfold saneX at h
  split at h
  · split at h
    · rename_i hf
      obtain rfl := Nat.eq_of_beq_eq_true hf
      cases h
      exact sane_ans
    · cases h
  · cases h
set_option maxRecDepth 100000 in
theorem checks_run : checksRun = true := by kernel_rfl
theorem checks_ans (x z x' z' : Nat → Int) (y u y' u' : Nat → Bool) : Ans fLaw [markF x y z u, markF x' y' z' u'] (.bool true) :=
  @ans (VE (four x x' z z' fun i => if i = 0 then (if valB x then 0 else 10) else if i = 1 then (if valB x && valB z then 0 else 10) else if i = 2 then cmpE x y x' y' else cmpM x y z u x' y' z' u') (four y y' u u' fun _ => false)) saneX _ _ saneX_true (by intro e he; cases he) (by
    intro e he
    simp only [List.mem_cons, List.not_mem_nil, or_false] at he
    rcases he with rfl | rfl | rfl | rfl | rfl | rfl | rfl | rfl
    · exact chk_ans x y
    · exact rchk_ans x y
    · exact cm_ans x z y u
    · exact rcm_ans x z y u
    · exact cmp_ans x x' y y'
    · exact rcmp_ans x x' y y'
    · exact cmk_ans x z x' z' y u y' u'
    · exact rcmk_ans x z x' z' y u y' u') _ _ _ _ _ checks_run
end Go.Proofs.Z
