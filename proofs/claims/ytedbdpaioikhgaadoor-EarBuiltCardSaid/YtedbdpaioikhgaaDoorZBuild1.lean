/- A part of the proofs that the laws of layer one answer true for every input. -/
import Derived.Test.YtedbdpaioikhgaaDoorZBuild0
namespace Go.Proofs.Z
open Go Go.RowKit Go.Proofs Go.Ri
/-! Build of package ear: its runs. -/
def wl : List Int := [0, 0, 0, 0, 0, 0, 0, 0, 0]
def zEL : List Value := [.int .i64 0, .int .i64 0, .int .i64 0, .int .i64 0, .int .i64 0, .int .i64 0, .int .i64 0, .int .i64 0, .int .i64 0, .bool false, .bool false, .bool false]
def shapeL : List RV := [sI 20, sI 21, sI 22, sI 23, sI 24, sI 25, sI 26, sI 27, sI 28, sI 29, sI 30, sI 31]
def cell4 : List RV := [sI 2, sI 3, sI 4, sI 5]
def bds : List RV := [.slN 0 0 4]
noncomputable def bpat (_ : Unit) : St := ⟨patW [(12, .slA 0 0 4), (13, sI 1), (14, sI 0), (2, .ptr 1 0), (3, lI 0), (4, .ptr 2 0)] 46 0,
  [some (.lstA 0), some (.cells (zEL.map .pl) 25 false false), some (.cells shapeL 86 false false)]⟩
def bBase (b : Bool) : List TE := [⟨.bin .lss, sI 0, sI 1, bR b⟩, ⟨.inb, sI 0, sI 1, bR b⟩, ⟨.bin .add, sI 0, lI 1, sI 6⟩]
noncomputable def bGood (p v : Nat) (z : Bool) : Tb := { LL := [⟨0, 4, sI 1⟩], T := ⟨.ieq, sI (20 + p), lI 0, bR z⟩ :: bBase true, LX := [⟨0, 0, litR p v⟩], Y := [⟨fLocate, [.agg (litR p v)], trip p v⟩] }
noncomputable def bBad : Tb := { LL := [⟨0, 4, sI 1⟩], T := bBase true, LX := [⟨0, 0, cell4⟩], Y := [⟨fLocate, [.agg cell4], .tup [lI 0, lI 0, bR false]⟩] }
def bitT (b0 b1 b2 : Bool) : List TE := [⟨.ieq, sI 29, lI 0, bR (!b0)⟩, ⟨.ieq, sI 30, lI 0, bR (!b1)⟩, ⟨.ieq, sI 31, lI 0, bR (!b2)⟩]
def bEarR (b0 b1 b2 : Bool) : RV := .agg [sI 20, sI 21, sI 22, sI 23, sI 24, sI 25, sI 26, sI 27, sI 28, bR b0, bR b1, bR b2]
noncomputable def bEnd (b0 b1 b2 ok : Bool) : Tb := { LL := [⟨0, 4, sI 1⟩], T := bitT b0 b1 b2 ++ bBase false, Y := [⟨fCheck, [bEarR b0 b1 b2], lI (if ok then 0 else 10)⟩] }
noncomputable def bStart : Tb := { LL := [⟨0, 4, sI 1⟩] }
def bIds (p v : Nat) : List SE := .int 0 (sI 6) :: .int 1 (sI 1) :: .lst 0 0 :: .int (20 + p) (lI v) :: idI (fids.filter fun j => !(Nat.beq j (20 + p)))
def errR (n : Int) : RV := .pl (.tuple #[.agg zEL.toArray, .int .i64 n])
def bSIds : List SE := .int 0 (lI 0) :: .int 1 (sI 1) :: .lst 0 0 :: fids.map fun j => .int j (lI 0)
set_option maxRecDepth 100000 in
theorem b_enter : enterT bStart [] fBuild bds bSIds [0, 1, 2] (bpat ()) = true := by kernel_rfl
noncomputable def bAgain (p v : Nat) : Bool := match Nat.ble 1 v && Nat.blt v (vc p) with
  | true => againT (bGood p v true) [] (hB bStart [] fBuild bds) (hK bStart [] fBuild bds) (bpat ()) (bIds p v) [0, 1, 2] (bpat ())
  | false => true
noncomputable def bTwice (p v : Nat) : Bool := match Nat.ble 1 v && Nat.blt v (vc p) with
  | true => outF (bGood p v false) [] fBuild (hB bStart [] fBuild bds) (hK bStart [] fBuild bds) (bpat ()) (errR 11)
  | false => true
set_option maxRecDepth 100000 in
theorem b_again : (allU 12 fun p => allU 5 fun v => bAgain p v) = true := by kernel_rfl
set_option maxRecDepth 100000 in
theorem b_twice : (allU 12 fun p => allU 5 fun v => bTwice p v) = true := by kernel_rfl
set_option maxRecDepth 100000 in
theorem b_bad : outF bBad [] fBuild (hB bStart [] fBuild bds) (hK bStart [] fBuild bds) (bpat ()) (errR 11) = true := by kernel_rfl
noncomputable def bOut (ok b0 b1 b2 : Bool) : Bool := outF (bEnd b0 b1 b2 ok) [] fBuild (hB bStart [] fBuild bds) (hK bStart [] fBuild bds) (bpat ()) (if ok then .tup [bEarR b0 b1 b2, lI 0] else errR 10)
set_option maxRecDepth 100000 in
theorem b_out : (all2 fun ok => all2 fun b0 => all2 fun b1 => all2 fun b2 => bOut ok b0 b1 b2) = true := by kernel_rfl
end Go.Proofs.Z
