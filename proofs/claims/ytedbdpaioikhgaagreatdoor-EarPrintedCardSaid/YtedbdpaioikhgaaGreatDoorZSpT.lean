/- A part of the proofs that the laws of layer one answer true for every input. -/
import Derived.Test.YtedbdpaioikhgaaGreatDoorZLoop5
import Derived.Test.YtedbdpaioikhgaaGreatDoorZEarOf
namespace Go.Proofs.Z.Sp
open Go Go.RowKit Go.Proofs Go.Ri Go.Proofs.Z
/-! The specification's Tokens: its runs. -/
abbrev fTokens : Nat := 100
abbrev fClass : Nat := 129
abbrev fPeek : Nat := 127
abbrev fHere : Nat := 104
abbrev fFail : Nat := 105
abbrev fWant : Nat := 103
abbrev fIndex : Nat := 148
abbrev fPart : Nat := 128
abbrev fREar : Nat := 99
abbrev fLast : Nat := 101
abbrev fRPW : Nat := 51
abbrev fRPM : Nat := 55
abbrev fTip : Nat := 121
abbrev fSlot : Nat := 123
abbrev fEdgeW : Nat := 122
abbrev fDigit : Nat := 124
abbrev fRPhrase : Nat := 96
abbrev fRWords : Nat := 49
abbrev fRPrint : Nat := 53
abbrev fRPlace : Nat := 82
abbrev fRWith : Nat := 83
abbrev fRGet : Nat := 67
abbrev fPW : Nat := 50
abbrev fPM : Nat := 54
abbrev fWords : Nat := 48
abbrev fPrint : Nat := 52
abbrev fPhrase : Nat := 94
abbrev fJoin : Nat := 95
abbrev fEarWords : Nat := 8
abbrev fEarMarks : Nat := 9
abbrev fEarPrinted : Nat := 10
abbrev fTurned : Nat := 56
abbrev fBlanks : Nat := 57
abbrev fSplit : Nat := 106
abbrev fWide : Nat := 107
abbrev fLAt : Nat := 58
def sT (i : Nat) : RV := .sym .str i
def sU (i : Nat) : RV := .sym (.int .u8) i
def lU (n : Int) : RV := .pl (.int .u8 n)
def lT (l : List UInt8) : RV := .pl (.string ⟨l.toArray⟩)
def tkA : List RV := [sT 0]
noncomputable def tkB : Code := hB {} [] fTokens tkA
noncomputable def tkK : List Fr := hK {} [] fTokens tkA
noncomputable def oH (ne : Bool) : RH := if ne then [some (.lst 0 150 true)] else []
noncomputable def tpat (ne : Bool) : St := ⟨patW [(0, sT 0), (3, if ne then .slN 0 0 2 else nilR), (4, sI 1)] 52 0, oH ne⟩
noncomputable def ipat (k : Bool × Nat) : St := ⟨patW [(0, sT 0), (3, if k.1 then .slN 0 0 2 else nilR), (4, sI 1), (5, lI k.2), (6, sI 6)] 52 0, oH k.1⟩
/-- Up to the inner loop. -/
noncomputable def inT (d : Nat) : Tb := { T := [⟨.len, sT 0, sT 0, sI 90⟩, ⟨.bin .lss, sI 1, sI 90, bR true⟩, ⟨.idx, sT 0, sI 1, sU 5⟩, ⟨.bin .add, sI 1, lI 1, sI 8⟩], Y := [⟨fClass, [sU 5], lI d⟩] }
noncomputable def agI (d : Nat) : Tb := { T := [⟨.len, sT 0, sT 0, sI 90⟩, ⟨.bin .lss, sI 6, sI 90, bR true⟩, ⟨.idx, sT 0, sI 6, sU 15⟩, ⟨.ieq, sI 11, lI d, bR true⟩, ⟨.bin .add, sI 6, lI 1, sI 7⟩], Y := [⟨fClass, [sU 15], sI 11⟩] }
noncomputable def ouI (x d : Nat) : Tb := match x with
  | 0 => { T := [⟨.len, sT 0, sT 0, sI 90⟩, ⟨.bin .lss, sI 6, sI 90, bR false⟩], LA := [⟨0, [sI 1, sT 2], 1⟩], SS := [⟨sT 0, sI 1, sI 6, sT 2⟩] }
  | 1 => { T := [⟨.len, sT 0, sT 0, sI 90⟩, ⟨.bin .lss, sI 6, sI 90, bR true⟩], LA := [⟨0, [sI 1, sT 2], 1⟩], SS := [⟨sT 0, sI 1, sI 6, sT 2⟩] }
  | _ => { T := [⟨.len, sT 0, sT 0, sI 90⟩, ⟨.bin .lss, sI 6, sI 90, bR true⟩, ⟨.idx, sT 0, sI 6, sU 15⟩, ⟨.ieq, sI 11, lI d, bR false⟩], Y := [⟨fClass, [sU 15], sI 11⟩], LA := [⟨0, [sI 1, sT 2], 1⟩], SS := [⟨sT 0, sI 1, sI 6, sT 2⟩] }
noncomputable def inO (ne : Bool) (d : Nat) : Option Stop := bodT (inT d) [] tkB (tpat ne)
def blk (ne : Bool) : List Nat := if ne then [0] else []
def keepL (ne : Bool) : List SE := if ne then [.lst 0 0] else []
def Sin (ne : Bool) (j : Nat) : List SE := [.str 0 (sT 0), .int 1 (sI 1), .int 6 (sI j)] ++ keepL ne
def Sou (ne : Bool) (d : Nat) : List SE := [.str 0 (sT 0), .int 1 (sI 6)] ++ (if d = 3 then keepL ne else if ne then [.lst 0 1] else [.new 0 [sI 1, sT 2]])
def blkO (ne : Bool) (d : Nat) : List Nat := if d = 3 then blk ne else if ne then [2] else [1]
def okX (x d : Nat) : Bool := match x with | 0 => true | 1 => Nat.beq d 0 || Nat.beq d 3 | _ => Nat.beq d 1 || Nat.beq d 2
set_option maxRecDepth 100000 in
theorem tk_enter : enterT {} [] fTokens tkA [.str 0 (sT 0), .int 1 (lI 0)] [] (tpat false) = true := by kernel_rfl
set_option maxRecDepth 100000 in
theorem tk_in : (all2 fun ne => allU 4 fun d => enterH (inO ne d) (Sin ne 8) (blk ne) (ipat (ne, d))) = true := by kernel_rfl
set_option maxRecDepth 100000 in
theorem tk_ag : (all2 fun ne => allU 4 fun d => if okX 2 d then againT (agI d) [] (hbB (inO ne d)) (hbK (inO ne d)) (ipat (ne, d)) (Sin ne 7) (blk ne) (ipat (ne, d)) else true) = true := by kernel_rfl
set_option maxRecDepth 100000 in
theorem tk_ou : (all2 fun ne => allU 3 fun d => allU 3 fun x => if okX x d then backT (ouI x d) [] (hbB (inO ne d)) (hbK (inO ne d)) (ipat (ne, d)) (Sou ne d) (blkO ne d) (tpat (ne || !(Nat.beq d 3))) else true) = true := by kernel_rfl
set_option maxRecDepth 100000 in
theorem tk_ou3 : (all2 fun ne => allU 2 fun x => backT { T := (ouI x 3).T } [] (hbB (inO ne 3)) (hbK (inO ne 3)) (ipat (ne, 3)) (Sou ne 3) (blkO ne 3) (tpat ne)) = true := by kernel_rfl
noncomputable def endT : Tb := { T := [⟨.len, sT 0, sT 0, sI 90⟩, ⟨.bin .lss, sI 1, sI 90, bR false⟩] }
noncomputable def tkR (ne : Bool) : RV × RH := if ne then (.slN 0 0 2, [some (.lst 0 150 true)]) else (nilR, [])
set_option maxRecDepth 100000 in
theorem tk_end : (all2 fun ne => outQ endT [] fTokens tkB tkK (tpat ne) (keepL ne) (blk ne) (tkR ne).1 (tkR ne).2) = true := by kernel_rfl
/-- class. -/
def clT (a b c d e : Bool) : List TE := [⟨.bin .geq, sU 5, lU 97, bR a⟩, ⟨.bin .leq, sU 5, lU 122, bR b⟩, ⟨.bin .geq, sU 5, lU 48, bR c⟩, ⟨.bin .leq, sU 5, lU 57, bR d⟩, ⟨.ieq, sU 5, lU 32, bR e⟩]
noncomputable def clRun (a b c d e : Bool) : Bool := runOK noX (clT a b c d e) [] 1000 20 fClass [sU 5] (lI (if a && b then 1 else if c && d then 2 else if e then 3 else 0))
set_option maxRecDepth 100000 in
theorem cl_run : (all2 fun a => all2 fun b => all2 fun c => all2 fun d => all2 fun e => clRun a b c d e) = true := by kernel_rfl
end Go.Proofs.Z.Sp
