/- A part of the proofs that the laws of layer one answer true for every input. -/
import Derived.Test.YtedbdpaioikhgaaDoorZCodes
namespace Go.Proofs.Z
open Go Go.RowKit Go.Proofs Go.Ri
def baseT (t : Nat) : Nat := match t with | 0 => 0 | 1 => 12800 | 2 => 25600 | 3 => 38400 | 4 => 41288 | _ => 44176
def slotsT (t : Nat) : Nat := if Nat.beq t 3 || Nat.beq t 4 then 3 else 4
def numT (t : Nat) : Nat := numE (slotsT t)
def earT (t k : Nat) : RV := .agg [lI t, sI (k + 1), sI (k + 2), sI (k + 3), sI (k + 4), sI (k + 5), sI (k + 6), sI (k + 7), sI (k + 8), sB k, sB (k + 1), sB (k + 2)]
def codeTs (t : Nat) : List TE := [⟨.bin .mul, sI 50, lI (numT t), sI 53⟩, ⟨.bin .add, sI 53, sI 51, sI 54⟩, ⟨.bin .mul, sI 54, lI 8, sI 55⟩, ⟨.bin .add, lI (baseT t), sI 55, sI 56⟩, ⟨.bin .add, sI 56, sI 52, sI 57⟩]
def codeYs (t : Nat) : List YE := [⟨fCheck, [earT t 0], lI 0⟩, ⟨fEdgeCode, [edgeR 1, lI (slotsT t)], sI 50⟩, ⟨fEdgeCode, [edgeR 5, lI (slotsT t)], sI 51⟩, ⟨fHolesCode, [holesR 0], sI 52⟩]
noncomputable def codeRun (t : Nat) : Bool := runOK noX (codeTs t) (codeYs t) 1000 20 fCode [earT t 0] (.tup [sI 57, lI 0])
set_option maxRecDepth 100000 in
theorem code_run : allN codeRun 5 = true := by kernel_rfl
noncomputable def codeNo : Bool := runOK noX [] [⟨fCheck, [earR 0], lI 10⟩] 1000 20 fCode [earR 0] (.tup [lI 0, lI 10])
set_option maxRecDepth 100000 in
theorem code_no : codeNo = true := by kernel_rfl
/-! From the number: the tips before this one are taken off. -/
def subTs (t : Nat) : List TE := (List.range (t + 1)).map fun (j : Nat) => ⟨.bin .geq, sI (60 + j), lI (numT j * numT j * 8 : Nat), bR (Nat.blt j t)⟩
def subTs2 (t : Nat) : List TE := (List.range t).map fun (j : Nat) => ⟨.bin .sub, sI (60 + j), lI (numT j * numT j * 8 : Nat), sI (60 + j + 1)⟩
def fcTs (t : Nat) : List TE := [⟨.bin .lss, sI 60, lI 0, bR false⟩, ⟨.bin .geq, sI 60, lI 44176, bR false⟩, ⟨.bin .quo, sI (60 + t), lI 8, sI 70⟩, ⟨.bin .quo, sI 70, lI (numT t), sI 71⟩, ⟨.bin .rem, sI 70, lI (numT t), sI 72⟩, ⟨.bin .rem, sI (60 + t), lI 8, sI 73⟩]
def fcYs (t : Nat) : List YE := [⟨fEdgeFromCode, [sI 71, lI (slotsT t)], edgeR 1⟩, ⟨fEdgeFromCode, [sI 72, lI (slotsT t)], edgeR 5⟩, ⟨fHolesFromCode, [sI 73], holesR 0⟩]
noncomputable def fcRun (t : Nat) : Bool := runOK noX (fcTs t ++ (subTs t ++ subTs2 t)) (fcYs t) 1000 20 fFromCode [sI 60] (.tup [earT t 0, lI 0])
set_option maxRecDepth 100000 in
theorem fc_run : allN fcRun 5 = true := by kernel_rfl
def zeroR : RV := .agg [lI 0, lI 0, lI 0, lI 0, lI 0, lI 0, lI 0, lI 0, lI 0, bR false, bR false, bR false]
def noTs (b : Bool) : List TE := match b with
  | true => [⟨.bin .lss, sI 60, lI 0, bR true⟩]
  | false => [⟨.bin .lss, sI 60, lI 0, bR false⟩, ⟨.bin .geq, sI 60, lI 44176, bR true⟩]
noncomputable def fcNo (b : Bool) : Bool := runOK noX (noTs b) [] 1000 20 fFromCode [sI 60] (.tup [zeroR, lI 1])
set_option maxRecDepth 100000 in
theorem fc_no : all2 fcNo = true := by kernel_rfl
/-! The next one. -/
noncomputable def nextNo : Bool := runOK noX [] [⟨fCode, [earR 0], .tup [lI 0, lI 10]⟩] 1000 20 fNext [earR 0] (.tup [zeroR, bR false, lI 10])
noncomputable def nextRun (b : Bool) : Bool := runOK noX [⟨.bin .add, sI 50, lI 1, sI 51⟩] [⟨fCode, [earR 0], .tup [sI 50, lI 0]⟩, ⟨fFromCode, [sI 51], .tup [earR 20, lI (if b then 0 else 1)]⟩] 1000 20 fNext [earR 0] (.tup [earR 20, bR b, lI 0])
set_option maxRecDepth 100000 in
theorem next_no : nextNo = true := by kernel_rfl
set_option maxRecDepth 100000 in
theorem next_run : all2 nextRun = true := by kernel_rfl
end Go.Proofs.Z
