/- A part of the proofs that the laws of layer one answer true for every input. -/
import Derived.Test.YtedbdpaioikhgaaGreatDoorZLoop5
import Derived.Test.YtedbdpaioikhgaaGreatDoorZEarOf
import Derived.Test.YtedbdpaioikhgaaGreatDoorZTkL
namespace Go.Proofs.Z.Sp
open Go Go.RowKit Go.Proofs Go.Ri Go.Proofs.Z
/-! The specification's Tokens: its runs. -/
abbrev fTokens : Nat := 100
abbrev fClass : Nat := 129
abbrev fPeek : Nat := 127
abbrev fHere : Nat := 104
abbrev fFail : Nat := 105
abbrev fWant : Nat := 103
abbrev fIndex : Nat := 148
abbrev fPart : Nat := 128
abbrev fREar : Nat := 99
abbrev fLast : Nat := 101
abbrev fRPW : Nat := 51
abbrev fRPM : Nat := 55
abbrev fTip : Nat := 121
abbrev fSlot : Nat := 123
abbrev fEdgeW : Nat := 122
abbrev fDigit : Nat := 124
abbrev fRPhrase : Nat := 96
abbrev fRWords : Nat := 49
abbrev fRPrint : Nat := 53
abbrev fRPlace : Nat := 82
abbrev fRWith : Nat := 83
abbrev fRGet : Nat := 67
abbrev fPW : Nat := 50
abbrev fPM : Nat := 54
abbrev fWords : Nat := 48
abbrev fPrint : Nat := 52
abbrev fPhrase : Nat := 94
abbrev fJoin : Nat := 95
abbrev fEarWords : Nat := 8
abbrev fEarMarks : Nat := 9
abbrev fEarPrinted : Nat := 10
abbrev fTurned : Nat := 56
abbrev fBlanks : Nat := 57
abbrev fSplit : Nat := 106
abbrev fWide : Nat := 107
abbrev fLAt : Nat := 58
def sT (i : Nat) : RV := .sym .str i
def sU (i : Nat) : RV := .sym (.int .u8) i
def lU (n : Int) : RV := .pl (.int .u8 n)
def lT (l : List UInt8) : RV := .pl (.string ⟨l.toArray⟩)
def tkA : List RV := [sT 0]
noncomputable def tkB : Code := hB {} [] fTokens tkA
noncomputable def tkK : List Fr := hK {} [] fTokens tkA
noncomputable def oH (ne : Bool) : RH := if ne then [some (.lst 0 150 true)] else []
noncomputable def tpat (ne : Bool) : St := ⟨patW [(0, sT 0), (3, if ne then .slN 0 0 2 else nilR), (4, sI 1)] 52 0, oH ne⟩
noncomputable def ipat (k : Bool × Nat) : St := ⟨patW [(0, sT 0), (3, if k.1 then .slN 0 0 2 else nilR), (4, sI 1), (5, lI k.2), (6, sI 6)] 52 0, oH k.1⟩
/-- Up to the inner loop. -/
noncomputable def inT (d : Nat) : Tb := { T := [⟨.len, sT 0, sT 0, sI 90⟩, ⟨.bin .lss, sI 1, sI 90, bR true⟩, ⟨.idx, sT 0, sI 1, sU 5⟩, ⟨.bin .add, sI 1, lI 1, sI 8⟩], Y := [⟨fClass, [sU 5], lI d⟩] }
noncomputable def agI (d : Nat) : Tb := { T := [⟨.len, sT 0, sT 0, sI 90⟩, ⟨.bin .lss, sI 6, sI 90, bR true⟩, ⟨.idx, sT 0, sI 6, sU 15⟩, ⟨.ieq, sI 11, lI d, bR true⟩, ⟨.bin .add, sI 6, lI 1, sI 7⟩], Y := [⟨fClass, [sU 15], sI 11⟩] }
noncomputable def ouI (x d : Nat) : Tb := match x with
  | 0 => { T := [⟨.len, sT 0, sT 0, sI 90⟩, ⟨.bin .lss, sI 6, sI 90, bR false⟩], LA := [⟨0, [sI 1, sT 2], 1⟩], SS := [⟨sT 0, sI 1, sI 6, sT 2⟩] }
  | 1 => { T := [⟨.len, sT 0, sT 0, sI 90⟩, ⟨.bin .lss, sI 6, sI 90, bR true⟩], LA := [⟨0, [sI 1, sT 2], 1⟩], SS := [⟨sT 0, sI 1, sI 6, sT 2⟩] }
  | _ => { T := [⟨.len, sT 0, sT 0, sI 90⟩, ⟨.bin .lss, sI 6, sI 90, bR true⟩, ⟨.idx, sT 0, sI 6, sU 15⟩, ⟨.ieq, sI 11, lI d, bR false⟩], Y := [⟨fClass, [sU 15], sI 11⟩], LA := [⟨0, [sI 1, sT 2], 1⟩], SS := [⟨sT 0, sI 1, sI 6, sT 2⟩] }
noncomputable def inO (ne : Bool) (d : Nat) : Option Stop := bodT (inT d) [] tkB (tpat ne)
def blk (ne : Bool) : List Nat := if ne then [0] else []
def keepL (ne : Bool) : List SE := if ne then [.lst 0 0] else []
def Sin (ne : Bool) (j : Nat) : List SE := [.str 0 (sT 0), .int 1 (sI 1), .int 6 (sI j)] ++ keepL ne
def Sou (ne : Bool) (d : Nat) : List SE := [.str 0 (sT 0), .int 1 (sI 6)] ++ (if d = 3 then keepL ne else if ne then [.lst 0 1] else [.new 0 [sI 1, sT 2]])
def blkO (ne : Bool) (d : Nat) : List Nat := if d = 3 then blk ne else if ne then [2] else [1]
def okX (x d : Nat) : Bool := match x with | 0 => true | 1 => Nat.beq d 0 || Nat.beq d 3 | _ => Nat.beq d 1 || Nat.beq d 2
set_option maxRecDepth 100000 in
theorem tk_enter : enterT {} [] fTokens tkA [.str 0 (sT 0), .int 1 (lI 0)] [] (tpat false) = true := by kernel_rfl
set_option maxRecDepth 100000 in
theorem tk_in : (all2 fun ne => allU 4 fun d => enterH (inO ne d) (Sin ne 8) (blk ne) (ipat (ne, d))) = true := by kernel_rfl
set_option maxRecDepth 100000 in
theorem tk_ag : (all2 fun ne => allU 4 fun d => if okX 2 d then againT (agI d) [] (hbB (inO ne d)) (hbK (inO ne d)) (ipat (ne, d)) (Sin ne 7) (blk ne) (ipat (ne, d)) else true) = true := by kernel_rfl
set_option maxRecDepth 100000 in
theorem tk_ou : (all2 fun ne => allU 3 fun d => allU 3 fun x => if okX x d then backT (ouI x d) [] (hbB (inO ne d)) (hbK (inO ne d)) (ipat (ne, d)) (Sou ne d) (blkO ne d) (tpat (ne || !(Nat.beq d 3))) else true) = true := by kernel_rfl
set_option maxRecDepth 100000 in
theorem tk_ou3 : (all2 fun ne => allU 2 fun x => backT { T := (ouI x 3).T } [] (hbB (inO ne 3)) (hbK (inO ne 3)) (ipat (ne, 3)) (Sou ne 3) (blkO ne 3) (tpat ne)) = true := by kernel_rfl
noncomputable def endT : Tb := { T := [⟨.len, sT 0, sT 0, sI 90⟩, ⟨.bin .lss, sI 1, sI 90, bR false⟩] }
noncomputable def tkR (ne : Bool) : RV × RH := if ne then (.slN 0 0 2, [some (.lst 0 150 true)]) else (nilR, [])
set_option maxRecDepth 100000 in
theorem tk_end : (all2 fun ne => outQ endT [] fTokens tkB tkK (tpat ne) (keepL ne) (blk ne) (tkR ne).1 (tkR ne).2) = true := by kernel_rfl
/-- class. -/
def clT (a b c d e : Bool) : List TE := [⟨.bin .geq, sU 5, lU 97, bR a⟩, ⟨.bin .leq, sU 5, lU 122, bR b⟩, ⟨.bin .geq, sU 5, lU 48, bR c⟩, ⟨.bin .leq, sU 5, lU 57, bR d⟩, ⟨.ieq, sU 5, lU 32, bR e⟩]
noncomputable def clRun (a b c d e : Bool) : Bool := runOK noX (clT a b c d e) [] 1000 20 fClass [sU 5] (lI (if a && b then 1 else if c && d then 2 else if e then 3 else 0))
set_option maxRecDepth 100000 in
theorem cl_run : (all2 fun a => all2 fun b => all2 fun c => all2 fun d => all2 fun e => clRun a b c d e) = true := by kernel_rfl
end Go.Proofs.Z.Sp

namespace Go.Proofs.Z.Sp
open Go Go.RowKit Go.Proofs Go.Ri Go.Proofs.Z
open Go.Proofs.Z.Ps (isV seqV wWhole wComma wordsA wordsC wordsH wordsS phr nt vc)
/-! The specification's part: its runs. -/
def pR (n a r : RV) : RV := .agg [.slN 0 0 2, n, sI 90, a, r]
def pAr : List RV := [pR (sI 10) (sI 50) (sI 51)]
noncomputable def lH : RH := [some (.lst 0 150 false)]
def idN : List Nat := [10, 11, 12, 13, 14, 15, 16, 17, 18, 19, 50, 51, 90]
def Sid : List SE := .lst 0 0 :: idI idN
/-- Is token k there. -/
def inK (k : Nat) (b : Bool) : List TE := [⟨.bin .lss, sI (10 + k), sI 91, bR b⟩, ⟨.inb, sI (10 + k), sI 91, bR b⟩, ⟨.bin .add, sI (10 + k), lI 1, sI (11 + k)⟩]
def inR : Nat → List TE
  | 0 => []
  | k + 1 => inR k ++ inK k true
def lxK (k : Nat) : LEE := ⟨0, 10 + k, [sI (15 + k), sT (1 + k)]⟩
def lxR : Nat → List LEE
  | 0 => []
  | k + 1 => lxR k ++ [lxK k]
/-- Tokens 0 to m - 1 are there; where o, token m is not. -/
noncomputable def gT (m : Nat) (o : Bool) (T : List TE) : Tb := { T := ⟨.ieq, sI 51, lI 0, bR true⟩ :: (T ++ (inR m ++ (if o then inK m false else []))), LL := [⟨0, 2, sI 91⟩], LX := lxR m }
def ftR (p v : Nat) : RV :=
  if p = 0 then .agg [lI 1, lI 0, lI 0, lI v]
  else if p < 5 then .agg [lI 2, lI 0, lI (p - 1 : Nat), lI v]
  else if p < 9 then .agg [lI 2, lI 1, lI (p - 5 : Nat), lI v]
  else .agg [lI 3, lI 0, lI (p - 9 : Nat), lI 0]
def goodR (p v : Nat) : RV := .tup [ftR p v, pR (sI (10 + nt p)) (sI 50) (sI 51)]
noncomputable def pRun (t : Tb) (r : RV) : Bool := doneH t [true, true, true] fPart pAr lH Sid (List.range 1) r lH
noncomputable def pGood (p v : Nat) : Bool := match Nat.ble 1 v && Nat.blt v (vc p) with
  | true => pRun (gT (nt p) false (phr p v)) (goodR p v)
  | false => true
/-- What breaks off: behind k tokens; the kinds: nothing fits; a hole; an edge; an edge and a cut. -/
def badF (c : Nat) (e v : Nat) : RV := match c with
  | 1 => .agg [lI 3, lI 0, lI 0, lI 0]
  | 3 => .agg [lI 2, lI e, lI 0, lI (v + 1 : Nat)]
  | _ => .agg [lI 0, lI 0, lI 0, lI 0]
def badK (c : Nat) : Nat := match c with | 0 => 0 | 3 => 2 | _ => 1
noncomputable def badT (c e v : Nat) (o : Bool) : List TE := match c with
  | 0 => if o then [] else seqV 1 7 wordsA 0
  | 1 => seqV 1 4 wordsA 0 ++ if o then [] else seqV 2 3 wordsH 0
  | 2 => seqV 1 (5 + e) wordsA 0 ++ if o then [] else seqV 2 3 wordsC 0
  | _ => seqV 1 (5 + e) wordsA 0 ++ (seqV 2 v wordsC 0 ++ if o then [] else seqV 3 4 wordsS 0)
def badR (c e v : Nat) (o : Bool) : RV := .tup [badF c e v, pR (sI (10 + badK c)) (if o then sI 90 else sI (15 + badK c)) (lI 3)]
noncomputable def pBad (c e v : Nat) (o : Bool) : Bool := pRun (gT (if o then badK c else badK c + 1) o (badT c e v o)) (badR c e v o)
set_option maxRecDepth 100000 in
theorem p_bad : (all2 fun o => allU 4 fun c => allU 2 fun e => allU 3 fun v => pBad c e v o) = true := by kernel_rfl
end Go.Proofs.Z.Sp

namespace Go.Proofs.Z.Sp
open Go Go.RowKit Go.Proofs Go.Ri Go.Proofs.Z
open Go.Proofs.Z.Ps (isV seqV wWhole wComma wordsA wordsC wordsH wordsS phr nt vc)
/-! The specification's ear: its runs. -/
def zE12 : List Value := [.int .i64 0, .int .i64 0, .int .i64 0, .int .i64 0, .int .i64 0, .int .i64 0, .int .i64 0, .int .i64 0, .int .i64 0, .bool false, .bool false, .bool false]
def zP5 : List Value := [.slice none 0 0, .int .i64 0, .int .i64 0, .int .i64 0, .int .i64 0]
def eN (o : Nat) : List RV := [sI (o + 0), sI (o + 1), sI (o + 2), sI (o + 3), sI (o + 4), sI (o + 5), sI (o + 6), sI (o + 7), sI (o + 8), sB (o + 9), sB (o + 10), sB (o + 11)]
noncomputable def eO : Option Stop := stopH (gT 1 false (isV 1 wWhole false)) [] fREar pAr lH
noncomputable def ePat (_ : Unit) : St := ⟨patW [(1, .ptr 1 0), (2, .ptr 2 0), (3, .ptr 3 0), (4, .ptr 4 0)] 57 0,
  [some (.lst 0 150 false), some (.cells [.slN 0 0 2, sI 10, sI 90, sI 50, sI 51] 118 false false), some (.cells (zE12.map .pl) 25 false false), some (.cells (zP5.map .pl) 118 false false), some (.cells (eN 20) 25 false false)]⟩
def f9 : List Nat := [0, 1, 2, 3, 4, 5, 6, 7, 8]
def f3 : List Nat := [9, 10, 11]
def kpS (n : RV) : List SE := [.lst 0 0, .int 10 n, .int 90 (sI 90), .int 50 (sI 50), .int 51 (sI 51)]
def enS : List SE := kpS (sI 10) ++ (f9.map (fun j => .int (20 + j) (lI 0)) ++ f3.map fun j => .bool (20 + j) (bR false))
def upV (p v j : Nat) : RV := if Nat.beq j p then (if Nat.blt p 9 then lI v else bR true) else (if Nat.blt j 9 then sI (20 + j) else sB (20 + j))
def agS (p v : Nat) : List SE := kpS (sI (11 + nt p)) ++ (f9.map (fun j => .int (20 + j) (upV p v j)) ++ f3.map fun j => .bool (20 + j) (upV p v j))
/-- The answer: the ear, and the state. -/
def rR (o : Nat) : RV := .tup [.agg (eN o), .agg [.slN 0 0 2, sI (o + 12), sI 90, sI (o + 13), sI (o + 14)]]
def ouS (o : Nat) (c : Nat → RV) (n a e : RV) : List SE := [.lst 0 0, .int 90 (sI 90), .int (o + 12) n, .int (o + 13) a, .int (o + 14) e] ++ (f9.map (fun j => .int (o + j) (c j)) ++ f3.map fun j => .bool (o + j) (c j))
def sameV' (j : Nat) : RV := if Nat.blt j 9 then sI (20 + j) else sB (20 + j)
def zeroV (j : Nat) : RV := if Nat.blt j 9 then lI 0 else bR false
def zF (p : Nat) (z : Bool) : TE := if Nat.blt p 9 then ⟨.ieq, sI (20 + p), lI 0, bR z⟩ else ⟨.truth, sB (20 + p), sB (20 + p), bR (!z)⟩
def pE (r : RV) : WE := ⟨fPart, Sid, pAr, 0, 150, r⟩
noncomputable def wT (m : Nat) (o : Bool) (T : List TE) (r : RV) : Tb := { gT m o T with U := wU [pE r] }
noncomputable def okV (p v : Nat) (b : Bool) : Bool := match Nat.ble 1 v && Nat.blt v (vc p) with | true => b | false => true
noncomputable def eAgain (p v : Nat) : Bool := okV p v (againT (wT (nt p + 1) false (zF p true :: isV (nt p + 1) wComma true) (goodR p v)) [] (hbB eO) (hbK eO) (ePat ()) (agS p v) [0, 1, 2, 3, 4] (ePat ()))
noncomputable def eEnd (o : Nat) (p v : Nat) (ou : Bool) : Bool := okV p v (outQ (wT (if ou then nt p else nt p + 1) ou (zF p true :: if ou then [] else isV (nt p + 1) wComma false) (goodR p v)) [] fREar (hbB eO) (hbK eO) (ePat ()) (ouS o (upV p v) (sI (10 + nt p)) (sI 50) (sI 51)) (List.range 1) (rR o) lH)
noncomputable def eTwice (o : Nat) (p v : Nat) : Bool := okV p v (outQ (wT (nt p) false [zF p false] (goodR p v)) [] fREar (hbB eO) (hbK eO) (ePat ()) (ouS o sameV' (sI (10 + nt p)) (sI 15) (lI 11)) (List.range 1) (rR o) lH)
noncomputable def eBad (o : Nat) (c e v : Nat) (ou : Bool) : Bool := outQ (wT (if ou then badK c else badK c + 1) ou [] (badR c e v ou)) [] fREar (hbB eO) (hbK eO) (ePat ()) (ouS o sameV' (sI (10 + badK c)) (if ou then sI 90 else sI (15 + badK c)) (lI 3)) (List.range 1) (rR o) lH
set_option maxRecDepth 100000 in
theorem e_enter : enterH eO enS [0, 1, 2, 3, 5] (ePat ()) = true := by kernel_rfl
noncomputable def eWhole (o : Nat) : Bool := doneH (gT 1 false (isV 1 wWhole true)) [] fREar pAr lH (ouS o zeroV (sI 11) (sI 50) (sI 51)) (List.range 1) (rR o) lH
noncomputable def eErr (o : Nat) : Bool := doneH { T := [⟨.ieq, sI 51, lI 0, bR false⟩] } [] fREar pAr lH (ouS o zeroV (sI 10) (sI 50) (sI 51)) (List.range 1) (rR o) lH
set_option maxRecDepth 100000 in
theorem e_whole : eWhole 100 = true := by kernel_rfl
set_option maxRecDepth 100000 in
theorem e_whole2 : eWhole 200 = true := by kernel_rfl
set_option maxRecDepth 100000 in
theorem e_err : eErr 200 = true := by kernel_rfl
noncomputable def eNone (o : Nat) : Bool := doneH (wT 0 true [] (badR 0 0 0 true)) [true] fREar pAr lH (ouS o zeroV (sI 10) (sI 90) (lI 3)) (List.range 1) (rR o) lH
set_option maxRecDepth 100000 in
theorem e_none : eNone 100 = true := by kernel_rfl
set_option maxRecDepth 100000 in
theorem e_none2 : eNone 200 = true := by kernel_rfl
set_option maxRecDepth 100000 in
theorem e_bad : (all2 fun ou => allU 4 fun c => allU 2 fun e => allU 3 fun v => eBad 100 c e v ou) = true := by kernel_rfl
end Go.Proofs.Z.Sp
