/- A part of the proofs that the laws of layer one answer true for every input. -/
import Derived.Test.YtedbdpaioikhgaaGreatDoorZShort1
import Derived.Lib.Bytealg
namespace Go.Proofs.Z
open Go Go.RowKit Go.Proofs Go.Ri
/-! ParseShort of both packages: runs. -/
def pzL : List Value := [.int .i64 0, .int .i64 0, .int .i64 0, .int .i64 0, .int .i64 0, .int .i64 0, .int .i64 0, .int .i64 0, .int .i64 0, .bool false, .bool false, .bool false]
def perr (n : Int) : RV := .pl (.tuple #[.agg pzL.toArray, .int .i64 n])
def pL : List RV := [sI 20, sI 21, sI 22, sI 23, sI 24, sI 25, sI 26, sI 27, sI 28, sI 29, sI 30, sI 31]
def peL : List RV := [sI 20, sI 21, sI 22, sI 23, sI 24, sI 25, sI 26, sI 27, sI 28, sB 0, sB 1, sB 2]
def p9 : List Nat := [20, 21, 22, 23, 24, 25, 26, 27, 28]
noncomputable def ppat (k : Nat) : St := ⟨patW [(0, sS 0), (2, .ptr 0 0), (3, lI 0), (4, .ptr 1 0), (13, lI k)] 38 0,
  [some (.cells (pzL.map .pl) 25 false false), some (.cells pL 92 false false)]⟩
noncomputable def rppat (k : Nat) : St := ⟨patW [(0, sS 0), (2, .ptr 0 0), (3, lI 0), (4, .ptr 1 0), (5, lI k)] 48 0,
  [some (.cells (pzL.map .pl) 25 false false), some (.cells peL 25 false false)]⟩
def pArg : List RV := [sS 0]
def psT : List TE := [⟨.len, sS 0, sS 0, lI 12⟩]
noncomputable def psStart : Tb := { T := psT }
noncomputable def psOdd : Tb := { T := [⟨.len, sS 0, sS 0, sI 50⟩, ⟨.ieq, sI 50, lI 12, bR false⟩] }
def cdAt (k v : Nat) : RV := lU ((lett k).getD v 0).toNat
noncomputable def psGood (k v : Nat) : Tb := { T := [⟨.idx, sS 0, lI k, cdAt k v⟩], EX := [⟨fIBS, [lS (lett k), cdAt k v], lI v⟩] }
noncomputable def psBad (k : Nat) : Tb := { T := [⟨.idx, sS 0, lI k, sU 60⟩], EX := [⟨fIBS, [lS (lett k), sU 60], lI (-1)⟩] }
def bitP (b0 b1 b2 : Bool) : List TE := [⟨.ieq, sI 29, lI 0, bR (!b0)⟩, ⟨.ieq, sI 30, lI 0, bR (!b1)⟩, ⟨.ieq, sI 31, lI 0, bR (!b2)⟩]
def pEarR (b0 b1 b2 : Bool) : RV := .agg [sI 20, sI 21, sI 22, sI 23, sI 24, sI 25, sI 26, sI 27, sI 28, bR b0, bR b1, bR b2]
noncomputable def psEnd (ok b0 b1 b2 : Bool) : Tb := { T := bitP b0 b1 b2, Y := [⟨fCheck, [pEarR b0 b1 b2], lI (if ok then 0 else 10)⟩] }
def psI0 : List SE := .str 0 (sS 0) :: (p9 ++ [29, 30, 31]).map fun j => .int j (lI 0)
def rpsI0 : List SE := .str 0 (sS 0) :: (p9.map (fun j => .int j (lI 0)) ++ [0, 1, 2].map fun j => .bool j (bR false))
def psIds (k v : Nat) : List SE := .str 0 (sS 0) :: .int (20 + k) (lI v) :: idI ((p9 ++ [29, 30, 31]).filter fun j => !(Nat.beq j (20 + k)))
def rpsIds (k v : Nat) : List SE := .str 0 (sS 0) :: (if k < 9 then .int (20 + k) (lI v) :: (idI (p9.filter fun j => !(Nat.beq j (20 + k))) ++ idB [0, 1, 2]) else .bool (k - 9) (bR (!(Nat.beq v 0))) :: (idI p9 ++ idB ([0, 1, 2].filter fun j => !(Nat.beq j (k - 9)))))
set_option maxRecDepth 100000 in
theorem ps_enter : enterT psStart [] fPShort pArg psI0 [0, 1] (ppat 0) = true := by kernel_rfl
set_option maxRecDepth 100000 in
theorem rps_enter : enterT psStart [] fRPShort pArg rpsI0 [0, 1] (rppat 0) = true := by kernel_rfl
set_option maxRecDepth 100000 in
theorem ps_odd : doneQ psOdd [] fPShort pArg [] [] (perr 3) [] = true := by kernel_rfl
set_option maxRecDepth 100000 in
theorem rps_odd : doneQ psOdd [] fRPShort pArg [] [] (perr 3) [] = true := by kernel_rfl
noncomputable def psAgain (k v : Nat) : Bool := match Nat.blt v (ln k) with
  | true => againT (psGood k v) [] (hB psStart [] fPShort pArg) (hK psStart [] fPShort pArg) (ppat k) (psIds k v) [0, 1] (ppat (k + 1))
  | false => true
set_option maxRecDepth 100000 in
theorem ps_again : (allU 12 fun k => allU 5 fun v => psAgain k v) = true := by kernel_rfl
set_option maxRecDepth 100000 in
theorem ps_bad : (allU 12 fun k => outF (psBad k) [] fPShort (hB psStart [] fPShort pArg) (hK psStart [] fPShort pArg) (ppat k) (perr 3)) = true := by kernel_rfl
set_option maxRecDepth 100000 in
theorem ps_out : (all2 fun ok => all2 fun b0 => all2 fun b1 => all2 fun b2 => outF (psEnd ok b0 b1 b2) [] fPShort (hB psStart [] fPShort pArg) (hK psStart [] fPShort pArg) (ppat 12) (if ok then .tup [pEarR b0 b1 b2, lI 0] else perr 10)) = true := by kernel_rfl
noncomputable def rpsAgain (k v : Nat) : Bool := match Nat.blt v (ln k) with
  | true => againT { T := [⟨.idx, sS 0, lI k, cdAt k v⟩] } [true] (hB psStart [] fRPShort pArg) (hK psStart [] fRPShort pArg) (rppat k) (rpsIds k v) [0, 1] (rppat (k + 1))
  | false => true
set_option maxRecDepth 100000 in
theorem rps_again : (allU 12 fun k => allU 5 fun v => rpsAgain k v) = true := by kernel_rfl
noncomputable def rpsBad (k : Nat) : Tb := { T := ⟨.idx, sS 0, lI k, sU 60⟩ :: (lett k).map fun b => ⟨.ieq, lU b.toNat, sU 60, bR false⟩ }
set_option maxRecDepth 100000 in
theorem rps_bad : (allU 12 fun k => outF (rpsBad k) [true] fRPShort (hB psStart [] fRPShort pArg) (hK psStart [] fRPShort pArg) (rppat k) (perr 3)) = true := by kernel_rfl
set_option maxRecDepth 100000 in
theorem rps_out : (all2 fun ok => outF { Y := [⟨fValid, [.agg peL], bR ok⟩] } [] fRPShort (hB psStart [] fRPShort pArg) (hK psStart [] fRPShort pArg) (rppat 12) (if ok then .tup [.agg peL, lI 0] else perr 10)) = true := by kernel_rfl
end Go.Proofs.Z
