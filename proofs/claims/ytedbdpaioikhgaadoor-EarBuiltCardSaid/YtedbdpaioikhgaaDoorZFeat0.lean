/- A part of the proofs that the laws of layer one answer true for every input. -/
import Derived.Test.YtedbdpaioikhgaaDoorZLoop
import Derived.Test.YtedbdpaioikhgaaDoorZValA
namespace Go.Proofs.Z
open Go Go.RowKit Go.Proofs Go.Ri
/-! The row of an ear's values. -/
def shp (x : Nat → Int) (y : Nat → Bool) (i : Nat) : Int := if i < 9 then x i else if y (i - 9) then 1 else 0
def shapeF (s : Nat → Int) : Value := .agg #[.int .i64 (s 0), .int .i64 (s 1), .int .i64 (s 2), .int .i64 (s 3), .int .i64 (s 4), .int .i64 (s 5), .int .i64 (s 6), .int .i64 (s 7), .int .i64 (s 8), .int .i64 (s 9), .int .i64 (s 10), .int .i64 (s 11)]
def shapeR (k : Nat) : RV := .agg [sI k, sI (k + 1), sI (k + 2), sI (k + 3), sI (k + 4), sI (k + 5), sI (k + 6), sI (k + 7), sI (k + 8), sI (k + 9), sI (k + 10), sI (k + 11)]
def bitR (b : Bool) : RV := if b then lI 1 else lI 0
def truths (k : Nat) (b0 b1 b2 : Bool) : List TE := [⟨.truth, sB k, sB k, bR b0⟩, ⟨.truth, sB (k + 1), sB (k + 1), bR b1⟩, ⟨.truth, sB (k + 2), sB (k + 2), bR b2⟩]
theorem truths_true [Val] (k : Nat) : ∀ e ∈ truths k (Val.B k) (Val.B (k + 1)) (Val.B (k + 2)), TETrue e := by
  intro e he
  simp only [truths, List.mem_cons, List.not_mem_nil, or_false] at he
  rcases he with rfl | rfl | rfl
  · exact ⟨rfl, t_truth (Val.B k) _⟩
  · exact ⟨rfl, t_truth (Val.B (k + 1)) _⟩
  · exact ⟨rfl, t_truth (Val.B (k + 2)) _⟩
noncomputable def shapeRun (b0 b1 b2 : Bool) : Bool := runOK noX (truths 0 b0 b1 b2) [] 1000 10 fShapeOf [earR 0] (.agg [sI 0, sI 1, sI 2, sI 3, sI 4, sI 5, sI 6, sI 7, sI 8, bitR b0, bitR b1, bitR b2])
set_option maxRecDepth 100000 in
theorem shape_run : (all2 fun a => all2 fun b => all2 fun c => shapeRun a b c) = true := by kernel_rfl
theorem shape_ans (x : Nat → Int) (y : Nat → Bool) : Ans fShapeOf [earF x y] (shapeF (shp x y)) := by
  have h := all2_all (all2_all (all2_all shape_run (y 0)) (y 1)) (y 2)
  have r := @ans (VE x y) noX _ [] noX_true (@truths_true (VE x y) 0) (by intro e he; cases he) _ _ _ _ _ h
  have e : @cvF (VE x y) (.agg [sI 0, sI 1, sI 2, sI 3, sI 4, sI 5, sI 6, sI 7, sI 8, bitR (y 0), bitR (y 1), bitR (y 2)]) = shapeF (shp x y) := by
    show Value.agg _ = Value.agg _
    cases h0 : y 0 <;> cases h1 : y 1 <;> cases h2 : y 2 <;> simp [shp, h0, h1, h2, cv, bitR, TK.val, sI, lI, Val.I]
  rw [e] at r
  exact r
end Go.Proofs.Z
