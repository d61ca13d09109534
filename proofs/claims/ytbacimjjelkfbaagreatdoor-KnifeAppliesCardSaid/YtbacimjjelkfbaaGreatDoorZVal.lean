/- A part of the proofs that the laws of layer three answer true for every input. -/
import Derived.Test.YtbacimjjelkfbaaGreatDoorZChk3
namespace Go.Proofs.Z
open Go Go.RowKit Go.Proofs Go.Ri
/-! The specification's Valid: what it answers, and that it is the same. -/
noncomputable def edgeRun (short : Bool) (c0 c1 c2 c3 : Nat) : Bool := runOK noX (entC 0 c0 ++ (entC 1 c1 ++ (entC 2 c2 ++ entC 3 c3))) [] 1000 10 fREdge [.agg [sI 0, sI 1, sI 2, sI 3], bR short]
  (bR (okC (if short then 3 else 4) c0 c1 c2 c3))
set_option maxRecDepth 100000 in
theorem edge_t : (allB fun c0 => allB fun c1 => allB fun c2 => allB fun c3 => edgeRun true c0 c1 c2 c3) = true := by kernel_rfl
set_option maxRecDepth 100000 in
theorem edge_f : (allB fun c0 => allB fun c1 => allB fun c2 => allB fun c3 => edgeRun false c0 c1 c2 c3) = true := by kernel_rfl
theorem edge_ans (short : Bool) (x : Nat → Int) : Ans fREdge [edgeF x, .bool short] (.bool (edgeB (if short then 3 else 4) x)) := by
  have h : edgeRun short (cls (x 0)) (cls (x 1)) (cls (x 2)) (cls (x 3)) = true := by
    cases short
    · exact allB_lt (allB_lt (allB_lt (allB_lt edge_f _ (cls_lt (x 0))) _ (cls_lt (x 1))) _ (cls_lt (x 2))) _ (cls_lt (x 3))
    · exact allB_lt (allB_lt (allB_lt (allB_lt edge_t _ (cls_lt (x 0))) _ (cls_lt (x 1))) _ (cls_lt (x 2))) _ (cls_lt (x 3))
  exact @ans (VE x fun _ => false) noX _ [] noX_true (by
    intro e he
    simp only [List.mem_append] at he
    rcases he with he | he | he | he
    · exact @entC_true (VE x fun _ => false) 0 e he
    · exact @entC_true (VE x fun _ => false) 1 e he
    · exact @entC_true (VE x fun _ => false) 2 e he
    · exact @entC_true (VE x fun _ => false) 3 e he) (by intro e he; cases he) _ _ _ _ _ h
def shortOf (c : Nat) : Bool := Nat.beq c 1 || Nat.beq c 2
noncomputable def valRun (tc : Nat) (bu bl : Bool) : Bool := runOK noX (entT 0 tc) [⟨fREdge, [edgeR 1, bR (shortOf tc)], bR bu⟩, ⟨fREdge, [edgeR 5, bR (shortOf tc)], bR bl⟩] 1000 10 fValid [earR 0] (bR (tipOK tc && (bu && bl)))
set_option maxRecDepth 100000 in
theorem val_run : (all5 fun tc => all2 fun bu => all2 fun bl => valRun tc bu bl) = true := by kernel_rfl
theorem val_ans (x : Nat → Int) (y : Nat → Bool) : Ans fValid [earF x y] (.bool (valB x)) := by
  let V := VE x y
  have h := all2_all (all2_all (all5_lt val_run _ (tcl_spec (x 0)).1) (edgeB (slotsOf (tcl (x 0))) (sh 1 x))) (edgeB (slotsOf (tcl (x 0))) (sh 5 x))
  exact @ans V noX _ _ noX_true (@entT_true V 0) (by
    intro e he
    simp only [List.mem_cons, List.not_mem_nil, or_false] at he
    rcases he with rfl | rfl
    · exact edge_ans (shortOf (tcl (x 0))) (sh 1 x)
    · exact edge_ans (shortOf (tcl (x 0))) (sh 5 x)) _ _ _ _ _ h
noncomputable def rchkRun (b : Bool) : Bool := runOK noX [] [⟨fValid, [earR 0], bR b⟩] 1000 10 fRCheck [earR 0] (lI (if b then 0 else 10))
set_option maxRecDepth 100000 in
theorem rchk_run : all2 rchkRun = true := by kernel_rfl
theorem rchk_ans (x : Nat → Int) (y : Nat → Bool) : Ans fRCheck [earF x y] (intV (if valB x then 0 else 10)) :=
  @ans (VE x y) noX _ _ noX_true (by intro e he; cases he) (by
    intro e he
    simp only [List.mem_cons, List.not_mem_nil, or_false] at he
    rcases he with rfl
    exact val_ans x y) _ _ _ _ _ (all2_all rchk_run (valB x))
end Go.Proofs.Z
