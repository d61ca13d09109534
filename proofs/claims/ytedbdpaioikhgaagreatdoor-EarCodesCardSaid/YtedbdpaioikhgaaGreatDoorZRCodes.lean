/- A part of the proofs that the laws of layer one answer true for every input. -/
import Derived.Test.YtedbdpaioikhgaaGreatDoorZCodes5
import Derived.Test.YtedbdpaioikhgaaGreatDoorZVal
import Derived.Test.YtedbdpaioikhgaaGreatDoorZCmp3
import Derived.Test.YtedbdpaioikhgaaGreatDoorZHook
namespace Go.Proofs.Z
open Go Go.RowKit Go.Proofs Go.Ri
/-! The specification's codes. -/
/-- Closed answers of the specification's edge. -/
def decEdge : List Value → Option (Nat → Int)
  | [.int .i64 a0, .int .i64 a1, .int .i64 a2, .int .i64 a3] => some fun i => match i with | 0 => a0 | 1 => a1 | 2 => a2 | _ => a3
  | _ => none
noncomputable def edgeHook (vs : List Value) : Option Value :=
  match vs with
  | [.agg a, .bool b] => match decEdge a.toList with
    | some x => some (.bool (edgeB (if b then 3 else 4) x))
    | none => none
  | _ => none
theorem edgeHook_ok {vs : List Value} {v : Value} (h : edgeHook vs = some v) : Ans fREdge vs v := by
  unfold edgeHook at h
  split at h
  · rename_i a b
    split at h
    · rename_i x hx
      cases h
      have e : (Value.agg a) = edgeF x := by
        unfold decEdge at hx
        split at hx
        · rename_i hl
          cases hx
          show Value.agg a = Value.agg _
          congr 1
          exact Array.ext' hl
        · cases hx
      rw [e]
      exact edge_ans b x
    · cases h
  · cases h
noncomputable def manyX : FuncId → List Value → Option Value := fun f vs => match Nat.beq f fREdge with
  | true => edgeHook vs
  | false => none
theorem manyX_true : XTrue manyX := by
  intro f vs v h
  unfold manyX at h
  split at h
  · rename_i hf
    obtain rfl := Nat.eq_of_beq_eq_true hf
    exact edgeHook_ok h
  · cases h
/-- The list of the edges as the specification makes it. -/
noncomputable def flatV (l : List (List Int)) : List Value := List.rec (motive := fun _ => List Value) [] (fun x _ ih => .int .i64 (nthI x 0) :: .int .i64 (nthI x 1) :: .int .i64 (nthI x 2) :: .int .i64 (nthI x 3) :: ih) l
noncomputable def edgesQ (s : Nat) : FE := ⟨flatV (edgesOf s), numE s, 4, 22⟩
set_option maxRecDepth 100000 in
theorem edges_run : freshOK manyX noF 100000 20 fEdges [.bool true] (edgesQ 3) = true := by kernel_rfl
set_option maxRecDepth 100000 in
theorem edges_run' : freshOK manyX noF 100000 20 fEdges [.bool false] (edgesQ 4) = true := by kernel_rfl
noncomputable def rF : FuncId → List Value → Option FE := fun f vs => match Nat.beq f fEdges, vs with
  | true, [.bool b] => some (edgesQ (if b then 3 else 4))
  | _, _ => none
theorem rF_true : FXTrue rF := by
  intro f vs q h
  unfold rF at h
  split at h
  · rename_i b hf
    obtain rfl := Nat.eq_of_beq_eq_true hf
    cases h
    cases b
    · exact fresh_ans manyX_true noF_true edges_run'
    · exact fresh_ans manyX_true noF_true edges_run
  · cases h
noncomputable def manyRun (t : Nat) : Bool := runOKL noX rF [] [] [] 1000 20 fMany [lI t] (lI (numT t * numT t * 8 : Nat))
set_option maxRecDepth 100000 in
theorem many_run : allN manyRun 5 = true := by kernel_rfl
theorem many_ans (t : Nat) (ht : t < 5) : Ans fMany [intV t] (intV (numT t * numT t * 8 : Nat)) :=
  @ansL V0 noX rF [] [] [] noX_true rF_true (by intro e he; cases he) (by intro e he; cases he) (by intro e he; cases he) _ _ _ _ _ (allN_lt many_run t ht)
end Go.Proofs.Z
