/- A part of the proofs that the laws of layer one answer true for every input. -/
import Derived.Test.YtedbdpaioikhgaaGreatDoorZFeat2
import Derived.Test.YtedbdpaioikhgaaGreatDoorZCmp3
namespace Go.Proofs.Z
open Go Go.RowKit Go.Proofs Go.Ri
/-! Features of the specification. -/
theorem k12_shp (x : Nat → Int) (y : Nat → Bool) (j : Nat) : k12 x y j = shp x y j := by
  unfold k12 shp
  split
  · rfl
  · cases y (j - 9) <;> rfl
def earCells : List RV := [sI 0, sI 1, sI 2, sI 3, sI 4, sI 5, sI 6, sI 7, sI 8, sB 0, sB 1, sB 2]
noncomputable def rq : FP := ⟨fRFeatures, { Y := [⟨fValid, [earR 0], bR true⟩] }, 26, 4, 1, 5, .ptr 0 0, [some (.cells earCells 25 false false)], fun k => [⟨fGet, [earR 0, lI k], sI (20 + k)⟩]⟩
set_option maxRecDepth 100000 in
theorem rf_enter : enterT rq.tb [] rq.f [earR 0] (idI fids ++ eids) (List.range rq.pre.length) (fpat rq (0, false)) = true := by kernel_rfl
set_option maxRecDepth 100000 in
theorem rf_rounds : (allU 12 fun k => all2 fun ne => all2 fun b => fround rq k ne b) = true := by kernel_rfl
set_option maxRecDepth 100000 in
theorem rf_outs : (all2 (foutQ rq)) = true := by kernel_rfl
theorem ear_cv (x : Nat → Int) (y : Nat → Bool) (V : Val) (hx : ∀ i, i < 9 → V.I i = x i) (hy : ∀ i, i < 3 → V.B i = y i) : @cvF V (earR 0) = earF x y := by
  show Value.agg #[.int .i64 (V.I 0), .int .i64 (V.I 1), .int .i64 (V.I 2), .int .i64 (V.I 3), .int .i64 (V.I 4), .int .i64 (V.I 5), .int .i64 (V.I 6), .int .i64 (V.I 7), .int .i64 (V.I 8), .bool (V.B 0), .bool (V.B 1), .bool (V.B 2)] = _
  rw [hx 0 (by omega), hx 1 (by omega), hx 2 (by omega), hx 3 (by omega), hx 4 (by omega), hx 5 (by omega), hx 6 (by omega), hx 7 (by omega), hx 8 (by omega), hy 0 (by omega), hy 1 (by omega), hy 2 (by omega)]
  rfl
theorem rfeatures_ans (x : Nat → Int) (y : Nat → Bool) (hv : valB x = true) (V : Val) (hj : V.L 0 = featL (shp x y) 12) : @AnsQ V fRFeatures [earF x y] (featAns (featL (shp x y) 12).isEmpty).1 (featAns (featL (shp x y) 12).isEmpty).2 := by
  refine feat_fn rq ⟨rf_enter, rf_rounds, rf_outs⟩ x y ?_ ?_ V hj
  · letI : Val := (fnm x y).val fun _ => undef
    refine { Y := ?_ }
    intro e he
    simp only [rq, List.mem_cons, List.not_mem_nil, or_false] at he
    rcases he with rfl
    have := val_ans x y
    rw [hv] at this
    exact this
  · intro k hk c hx hy hI W e he
    simp only [rq, List.mem_cons, List.not_mem_nil, or_false] at he
    rcases he with rfl
    have h := get_ans x y k hk
    rw [k12_shp, ← hI k hk, ← ear_cv x y (c.val W) hx hy] at h
    exact h
noncomputable def rfbadRun : Bool := doneQ { Y := [⟨fValid, [earR 0], bR false⟩] } [] fRFeatures [earR 0] [] [] badA []
set_option maxRecDepth 100000 in
theorem rfbad_run : rfbadRun = true := by kernel_rfl
theorem rfeatures_bad (x : Nat → Int) (y : Nat → Bool) (hv : valB x = false) : Ans fRFeatures [earF x y] (.tuple #[.slice none 0 0, .int .i64 10]) := by
  refine @ans_dq V0 _ _ _ [] fun w hr => ?_
  refine done_calls (VE x y) V0 (t := { Y := [⟨fValid, [earR 0], bR false⟩] }) (plan := []) (ds := [earR 0]) ?_ rfbad_run rfl (noHolds _ _) w hr [earF x y] (@nval_flat (VE x y) w [earR 0] rfl)
  letI : Val := VE x y
  refine { Y := ?_ }
  intro e he
  simp only [List.mem_cons, List.not_mem_nil, or_false] at he
  rcases he with rfl
  have := val_ans x y
  rw [hv] at this
  exact this
end Go.Proofs.Z
