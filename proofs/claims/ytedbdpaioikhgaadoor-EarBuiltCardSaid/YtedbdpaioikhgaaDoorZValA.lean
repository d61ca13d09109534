/- A part of the proofs that the laws of layer one answer true for every input. -/
import Derived.Test.YtedbdpaioikhgaaDoorZChk3
namespace Go.Proofs.Z
open Go Go.RowKit Go.Proofs Go.Ri
noncomputable def all2 (f : Bool → Bool) : Bool := match f true with
  | true => f false
  | false => false
theorem all2_all {f : Bool → Bool} (h : all2 f = true) (b : Bool) : f b = true := by
  unfold all2 at h
  split at h
  · cases b <;> assumption
  · cases h
noncomputable def cmRun (b c : Bool) : Bool := runOK noX [] [⟨fCheck, [earR 0], lI (if b then 0 else 10)⟩, ⟨fCheck, [earR 20], lI (if c then 0 else 10)⟩] 1000 10 fCheckMark [markR 0 20] (lI (if b && c then 0 else 10))
set_option maxRecDepth 100000 in
theorem cm_run : (all2 fun b => all2 fun c => cmRun b c) = true := by kernel_rfl
theorem cm_ans (x x' : Nat → Int) (y y' : Nat → Bool) : Ans fCheckMark [markF x y x' y'] (intV (if valB x && valB x' then 0 else 10)) :=
  @ans (VE (two 20 x x') (two 20 y y')) noX _ _ noX_true (by intro e he; cases he) (by
    intro e he
    simp only [List.mem_cons, List.not_mem_nil, or_false] at he
    rcases he with rfl | rfl
    · exact chk_ans x y
    · exact chk_ans x' y') _ _ _ _ _ (all2_all (all2_all cm_run (valB x)) (valB x'))
end Go.Proofs.Z
