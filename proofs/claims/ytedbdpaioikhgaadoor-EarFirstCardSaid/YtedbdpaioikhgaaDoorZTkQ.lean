/- A part of the proofs that the laws of layer one answer true for every input. -/
import Derived.Test.YtedbdpaioikhgaaDoorZTkP
namespace Go.Proofs.Z.Ps
open Go Go.RowKit Go.Proofs Go.Ri Go.Proofs.Z
/-! ParseMark of package ear: its runs, one for each way out. -/
def earR2 : RV := .agg [sI 200, sI 201, sI 202, sI 203, sI 204, sI 205, sI 206, sI 207, sI 208, sB' 200, sB' 201, sB' 202]
def markR2 : RV := .agg [sI 100, sI 101, sI 102, sI 103, sI 104, sI 105, sI 106, sI 107, sI 108, sB' 100, sB' 101, sB' 102, sI 200, sI 201, sI 202, sI 203, sI 204, sI 205, sI 206, sI 207, sI 208, sB' 200, sB' 201, sB' 202]
def zMR : RV := .pl (.agg zML.toArray)
def mLen (big : Bool) : List TE := [⟨.len, sT 0, sT 0, sI 90⟩, ⟨.bin .gtr, sI 90, lI 65536, bR big⟩]
def mErr (j : Nat) (ok : Bool) : List TE := [⟨.ieq, sI j, lI 0, bR ok⟩]
noncomputable def mIn : List TE := mLen false ++ (isV 50 wNear true ++ isV 51 wColon true)
noncomputable def mNear : List TE := mIn ++ (mErr 111 true ++ isV 101 wSemi true)
noncomputable def mFar : List TE := mNear ++ (isV 60 wFar true ++ isV 61 wColon true)
noncomputable def pmT (T : List TE) (Y : List YE) : Tb := { T := T, U := orU (nextU (sT 0) nxM) (ueU [earU cM2, earU cM1]), Y := Y }
def yN (ok : Bool) : YE := ⟨fCheck, [earR1], lI (if ok then 0 else 10)⟩
def yF (ok : Bool) : YE := ⟨fCheck, [earR2], lI (if ok then 0 else 10)⟩
noncomputable def pmRun (T : List TE) (Y : List YE) (r0 : RV) : Bool := doneF (pmT T Y) fPM [sT 0] r0
set_option maxRecDepth 100000 in
theorem pm_big : pmRun (mLen true) [] (.tup [zMR, lI 0, lI 2]) = true := by kernel_rfl
set_option maxRecDepth 100000 in
theorem pm_a : pmRun (mLen false ++ isV 50 wNear false) [] (.tup [zMR, sI 50, lI 3]) = true := by kernel_rfl
set_option maxRecDepth 100000 in
theorem pm_b : pmRun (mLen false ++ (isV 50 wNear true ++ isV 51 wColon false)) [] (.tup [zMR, sI 52, lI 3]) = true := by kernel_rfl
set_option maxRecDepth 100000 in
theorem pm_c : pmRun (mIn ++ mErr 111 false) [] (.tup [zMR, sI 110, sI 111]) = true := by kernel_rfl
set_option maxRecDepth 100000 in
theorem pm_d : pmRun (mIn ++ (mErr 111 true ++ isV 101 wSemi false)) [] (.tup [zMR, sI 112, lI 3]) = true := by kernel_rfl
set_option maxRecDepth 100000 in
theorem pm_e : pmRun mNear [yN false] (.tup [zMR, sI 112, lI 10]) = true := by kernel_rfl
set_option maxRecDepth 100000 in
theorem pm_f : pmRun (mNear ++ isV 60 wFar false) [yN true] (.tup [zMR, sI 60, lI 3]) = true := by kernel_rfl
set_option maxRecDepth 100000 in
theorem pm_g : pmRun (mNear ++ (isV 60 wFar true ++ isV 61 wColon false)) [yN true] (.tup [zMR, sI 62, lI 3]) = true := by kernel_rfl
set_option maxRecDepth 100000 in
theorem pm_h : pmRun (mFar ++ mErr 211 false) [yN true] (.tup [zMR, sI 210, sI 211]) = true := by kernel_rfl
set_option maxRecDepth 100000 in
theorem pm_i : pmRun (mFar ++ (mErr 211 true ++ isV 201 [] false)) [yN true] (.tup [zMR, sI 212, lI 3]) = true := by kernel_rfl
set_option maxRecDepth 100000 in
theorem pm_j : pmRun (mFar ++ (mErr 211 true ++ isV 201 [] true)) [yN true, yF false] (.tup [zMR, sI 212, lI 10]) = true := by kernel_rfl
set_option maxRecDepth 100000 in
theorem pm_k : pmRun (mFar ++ (mErr 211 true ++ isV 201 [] true)) [yN true, yF true] (.tup [markR2, lI 0, lI 0]) = true := by kernel_rfl
end Go.Proofs.Z.Ps
