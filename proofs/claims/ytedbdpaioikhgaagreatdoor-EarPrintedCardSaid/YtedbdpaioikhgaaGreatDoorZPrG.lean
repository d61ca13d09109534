/- A part of the proofs that the laws of layer one answer true for every input. -/
import Derived.Test.YtedbdpaioikhgaaGreatDoorZWdC
import Derived.Test.YtedbdpaioikhgaaGreatDoorZPrB
import Derived.Test.YtedbdpaioikhgaaGreatDoorZSpT
import Derived.Test.YtedbdpaioikhgaaGreatDoorZLoop5
namespace Go.Proofs.Z.Pr
open Go Go.RowKit Go.Proofs Go.Ri Go.Proofs.Z
open Go.Proofs.Z.Sp (fBlanks fWide fSplit fTurned fLAt)
open Go.Proofs.Z.Wd (phB)
open Go.Proofs.Z.Ps (vc nt wWhole)
/-! blanks and wide: runs. -/
def sU (i : Nat) : RV := .sym (.int .u8) i
def lU (n : Int) : RV := .pl (.int .u8 n)
def sT (i : Nat) : RV := .sym .str i
def lT (l : List UInt8) : RV := .pl (.string ⟨l.toArray⟩)
def rmT (r : Nat) : List TE := [⟨.bin .rem, sU 5, lU 4, lU r⟩]
noncomputable def blRun (r : Nat) : Bool := runOK noX (rmT r) [] 1000 20 fBlanks [sU 5] (lT (bl r))
set_option maxRecDepth 100000 in
theorem bl_run : (allU 4 blRun) = true := by kernel_rfl
noncomputable def wdOne (z o : List UInt8) (r : Nat) : Bool := runOK noX [] [⟨fBlanks, [sU 5], lT (bl r)⟩] 4000 20 fWide [lT z, sU 5] (lT o)
noncomputable def wdRun (p v r : Nat) : Bool := match Nat.ble 1 v && Nat.blt v (vc p) with
  | true => wdOne (phB p v) (wPh p v (1 + r)) r
  | false => true
set_option maxRecDepth 100000 in
theorem wd_whole : (allU 4 fun r => wdOne wWhole wWhole r) = true := by kernel_rfl
end Go.Proofs.Z.Pr

namespace Go.Proofs.Z.Pr
open Go Go.RowKit Go.Proofs Go.Ri Go.Proofs.Z
open Go.Proofs.Z.Sp (fBlanks fWide fSplit fTurned fLAt)
/-! split: runs. -/
def sU' (i : Nat) : RV := .sym (.int .u8) i
def lU' (n : Int) : RV := .pl (.int .u8 n)
def sT' (i : Nat) : RV := .sym .str i
def spA : List RV := [sT' 0]
noncomputable def spB : Code := hB {} [] fSplit spA
noncomputable def spK : List Fr := hK {} [] fSplit spA
noncomputable def spH (ne : Bool) : RH := if ne then [some (.lst 0 9 true)] else []
noncomputable def spP (ne : Bool) : St := ⟨patW [(0, sT' 0), (3, if ne then .slN 0 0 1 else nilR), (4, sI 1), (5, sI 0)] 39 0, spH ne⟩
def spT (b : Bool) : List TE := [⟨.len, sT' 0, sT' 0, sI 90⟩, ⟨.bin .add, sI 0, lI 1, sI 6⟩, ⟨.bin .lss, sI 6, sI 90, bR b⟩]
noncomputable def sp0 : Tb := { T := spT true ++ [⟨.idx, sT' 0, sI 0, sU' 5⟩, ⟨.ieq, sU' 5, lU' 44, bR false⟩] }
noncomputable def sp1 : Tb := { T := spT true ++ [⟨.idx, sT' 0, sI 0, sU' 5⟩, ⟨.ieq, sU' 5, lU' 44, bR true⟩, ⟨.idx, sT' 0, sI 6, sU' 7⟩, ⟨.ieq, sU' 7, lU' 32, bR true⟩, ⟨.bin .add, sI 0, lI 2, sI 8⟩], SS := [⟨sT' 0, sI 1, sI 0, sT' 2⟩], LA := [⟨0, [sT' 2], 1⟩] }
noncomputable def sp2 : Tb := { T := spT false, SS := [⟨sT' 0, sI 1, sI 90, sT' 3⟩], LA := [⟨0, [sT' 3], 2⟩] }
def spL (ne : Bool) : List SE := if ne then [.lst 0 0] else []
def spS0 (ne : Bool) : List SE := [.str 0 (sT' 0), .int 0 (sI 6), .int 1 (sI 1)] ++ spL ne
def spS1 (ne : Bool) : List SE := [.str 0 (sT' 0), .int 0 (sI 6), .int 1 (sI 8)] ++ if ne then [.lst 0 1] else [.new 0 [sT' 2]]
def spS2 (ne : Bool) : List SE := if ne then [.lst 0 2] else [.new 0 [sT' 3]]
set_option maxRecDepth 100000 in
theorem sp_enter : enterT {} [] fSplit spA [.str 0 (sT' 0), .int 0 (lI 0), .int 1 (lI 0)] [] (spP false) = true := by kernel_rfl
set_option maxRecDepth 100000 in
theorem sp_again0 : (all2 fun ne => againT sp0 [] spB spK (spP ne) (spS0 ne) (if ne then [0] else []) (spP ne)) = true := by kernel_rfl
set_option maxRecDepth 100000 in
theorem sp_again1 : (all2 fun ne => againT sp1 [] spB spK (spP ne) (spS1 ne) (if ne then [2] else [1]) (spP true)) = true := by kernel_rfl
set_option maxRecDepth 100000 in
theorem sp_out : (all2 fun ne => outQ sp2 [] fSplit spB spK (spP ne) (spS2 ne) (if ne then [2] else [1]) (.slN 0 0 1) [some (.lst 0 9 true)]) = true := by kernel_rfl
end Go.Proofs.Z.Pr

namespace Go.Proofs.Z.Pr
open Go Go.RowKit Go.Proofs Go.Ri Go.Proofs.Z
open Go.Proofs.Z.Sp (fBlanks fWide fSplit fTurned fLAt)
/-! turned: runs. -/
noncomputable def atTb (b : Bool) : Tb := { LL := [⟨0, 1, sI 1⟩], T := ⟨.bin .lss, sI 0, sI 1, bR b⟩ :: (if b then [⟨.inb, sI 0, sI 1, bR true⟩] else []), LX := if b then [⟨0, 0, [sU 40]⟩] else [] }
set_option maxRecDepth 100000 in
theorem at_run : (all2 fun b => doneQ (atTb b) [] fLAt [.slN 0 0 1, sI 0] [.int 40 (sU 40)] [] (if b then sU 40 else lU 0) []) = true := by kernel_rfl
set_option maxRecDepth 100000 in
theorem at_run0 : runOK noX [⟨.bin .lss, sI 0, lI 0, bR false⟩] [] 1000 20 fLAt [nilR, sI 0] (lU 0) = true := by kernel_rfl
def flN (b : Bool) : Nat := if b then 0 else 1
def tuR (tn : Bool) : RV := if tn then nilR else .slN 0 6 1
def tuH (tn : Bool) : RH := if tn then [] else [some (.lstA 6)]
noncomputable def tuP (tn rn : Bool) : St := ⟨patW [(1, if tn then nilR else .slA 0 6 1), (5, if rn then nilR else .slN (flN tn) 0 1), (6, sT 1), (7, sI 0)] 66 0, tuH tn ++ if rn then [] else [some (.lst 0 9 true)]⟩
noncomputable def tuQ : Tb := { Q := [⟨fSplit, [sT 0], .slN 0 0 1, [some (.lst 0 9 true)]⟩] }
noncomputable def tuB (tn : Bool) : Code := hB tuQ [] fTurned [sT 0, tuR tn]
noncomputable def tuK (tn : Bool) : List Fr := hK tuQ [] fTurned [sT 0, tuR tn]
def tuS0 (tn : Bool) : List SE := [.int 0 (lI 0), .str 1 (lT []), .lst 0 0] ++ if tn then [] else [.lst 6 6]
set_option maxRecDepth 100000 in
theorem tu_enter : (all2 fun tn => enterT tuQ [] fTurned [sT 0, tuR tn] (tuS0 tn) (if tn then [0] else [0, 1]) (tuP tn false)) = true := by kernel_rfl
/-- How the round cuts: 0: the first of several; 1: one in the middle; 2: the last of several; 3: the only one. f: the first round. -/
def tuT (f : Bool) : List TE := [⟨.bin .gtr, sI 2, lI 0, bR true⟩, ⟨.conv .i64, sU 40, sU 40, sI 3⟩, ⟨.bin .rem, sI 3, sI 2, sI 4⟩, ⟨.bin .gtr, sI 0, lI 0, bR (!f)⟩, ⟨.inb, sI 4, sI 2, bR true⟩, ⟨.bin .add, sI 4, lI 1, sI 6⟩, ⟨.bin .add, sI 0, lI 1, sI 7⟩, ⟨.bin .add, if f then sT 1 else sT 24, sT 25, sT 26⟩] ++ if f then [] else [⟨.bin .quo, sU 40, lU 4, sU 41⟩, ⟨.bin .quo, sU 40, lU 16, sU 42⟩, ⟨.bin .add, sT 1, sT 20, sT 21⟩, ⟨.bin .add, sT 21, lT [44], sT 22⟩, ⟨.bin .add, sT 22, sT 23, sT 24⟩]
def tuZ (q : Nat) : List Nat := if Nat.beq q 0 then [9] else if Nat.beq q 1 then [] else if Nat.beq q 2 then [10] else [9, 10]
def tuL (q : Nat) : List LBE := if Nat.beq q 0 then [⟨none, 10, 10⟩] else if Nat.beq q 1 then [⟨none, 9, 9⟩, ⟨some 9, 10, 11⟩] else if Nat.beq q 2 then [⟨none, 9, 9⟩] else []
noncomputable def tuY (f : Bool) : List YE := ⟨fWide, [sT 5, sU 40], sT 25⟩ :: if f then [] else [⟨fBlanks, [sU 41], sT 20⟩, ⟨fBlanks, [sU 42], sT 23⟩]
noncomputable def tuTb (tn f : Bool) (q : Nat) : Tb := { LL := [⟨0, 1, sI 2⟩], T := tuT f, LX := [⟨0, 4, [sT 5]⟩], LP := [⟨0, 1, none, some (sI 4), 9, 50⟩, ⟨0, 1, some (sI 6), none, 10, 6⟩], LZ := tuZ q, LB := tuL q, C := if tn then [] else [⟨fLAt, [.slN 0 6 1, sI 0], sU 40⟩], Y := tuY f ++ if tn then [⟨fLAt, [nilR, sI 0], sU 40⟩] else [] }
def tuS (tn : Bool) (q : Nat) : List SE := [.int 0 (sI 7), .str 1 (sT 26), .lst 0 (if Nat.beq q 0 then 10 else if Nat.beq q 1 then 11 else 9)] ++ if tn then [] else [.lst 6 6]
def tuR' (tn : Bool) (q : Nat) : List Nat := (if tn then [] else [0]) ++ if Nat.beq q 3 then [] else if Nat.beq q 1 then [flN tn + 2] else [flN tn + 1]
set_option maxRecDepth 100000 in
theorem tu_again : (allU 4 fun q => all2 fun tn => all2 fun f => againT (tuTb tn f q) [] (tuB tn) (tuK tn) (tuP tn false) (tuS tn q) (tuR' tn q) (tuP tn (Nat.beq q 3))) = true := by kernel_rfl
noncomputable def tuE (tn : Bool) : Tb := { T := if tn then [⟨.bin .add, lT [], sT 1, sT 31⟩, ⟨.bin .add, sT 31, lT [], sT 33⟩] else [⟨.bin .add, sT 30, sT 1, sT 31⟩, ⟨.bin .add, sT 31, sT 32, sT 33⟩], C := if tn then [] else [⟨fLAt, [.slN 0 6 1, lI 30], sU 43⟩, ⟨fLAt, [.slN 0 6 1, lI 31], sU 44⟩], Y := if tn then [] else [⟨fBlanks, [sU 43], sT 30⟩, ⟨fBlanks, [sU 44], sT 32⟩] }
set_option maxRecDepth 100000 in
theorem tu_out : (all2 fun tn => outF (tuE tn) [] fTurned (tuB tn) (tuK tn) (tuP tn true) (sT 33)) = true := by kernel_rfl
end Go.Proofs.Z.Pr
