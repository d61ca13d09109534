/- A part of the proofs that the laws of layer one answer true for every input. -/
import Derived.Test.YtedbdpaioikhgaaDoorZTkF
import Derived.Test.YtedbdpaioikhgaaDoorZLoop3
import Derived.Test.YtedbdpaioikhgaaDoorZEarOf
namespace Go.Proofs.Z.Ps
open Go Go.RowKit Go.Proofs Go.Ri Go.Proofs.Z
/-! The parser's ear: its runs. -/
def sT (i : Nat) : RV := .sym .str i
def sB' (i : Nat) : RV := .sym .bool i
def lT (l : List UInt8) : RV := .pl (.string ⟨l.toArray⟩)
def wWhole : List UInt8 := [119, 104, 111, 108, 101]
def wComma : List UInt8 := [44]
def wordsA : List (List UInt8) := [[115,108,105,116], [102,111,114,107,101,100], [104,111,108,108,111,119,101,100], [99,114,111,112,112,101,100], [104,111,108,101], [117,112,112,101,114], [108,111,119,101,114]]
def wordsC : List (List UInt8) := [[110,111,116,99,104], [98,105,116], [107,101,121]]
def wordsH : List (List UInt8) := [[48], [49], [50]]
def wordsS : List (List UInt8) := [[48], [49], [50], [51]]
/-- What token j is not or is, among words: the c-th. -/
noncomputable def seqV (j c : Nat) (l : List (List UInt8)) : Nat → List TE :=
  List.rec (motive := fun _ => Nat → List TE) (fun _ => []) (fun x _ ih k => ⟨.seq, sT j, lT x, bR (Nat.beq c k)⟩ :: ⟨.seq, lT x, sT j, bR (Nat.beq c k)⟩ :: ih (k + 1)) l
noncomputable def isV (j : Nat) (l : List UInt8) (b : Bool) : List TE := [⟨.seq, sT j, lT l, bR b⟩, ⟨.seq, lT l, sT j, bR b⟩]
noncomputable def nxT : List NXE := [⟨sI 0, sT 2, sI 40, sI 41⟩, ⟨sI 41, sT 3, sI 42, sI 43⟩, ⟨sI 43, sT 4, sI 44, sI 45⟩, ⟨sI 45, sT 5, sI 46, sI 47⟩]
/-- The caller: its further blocks, before the parser's three and behind them; names of theirs that stay; the first of the answer's names; the names at the start. -/
structure Cx where
  F : RH
  X : RH
  K : List SE
  o : Nat
  tk : Nat
  at_ : Nat
  po : Nat
def hP (X : Cx) (tok at_ pos : RV) : RH := X.F ++ ([some (.cells [sT 0] 9 false false), some (.cells [pos] 3 false false), some (.cells [.fn (.func 84) [] [.ptr (X.F.length + 1) 0, .ptr X.F.length 0], tok, at_] 97 false false)] ++ X.X)
def szX (X : Cx) : Nat := X.F.length + (3 + X.X.length)
def aX (X : Cx) : List RV := [.ptr (X.F.length + 2) 0]
noncomputable def tbN (T : List TE) : Tb := { T := T, U := nextU (sT 0) nxT }
def hP1 (X : Cx) : RH := hP X (sT 1) (sI 1) (sI 0)
def zEL : List Value := [.int .i64 0, .int .i64 0, .int .i64 0, .int .i64 0, .int .i64 0, .int .i64 0, .int .i64 0, .int .i64 0, .int .i64 0, .bool false, .bool false, .bool false]
def shapeL : List RV := [sI 20, sI 21, sI 22, sI 23, sI 24, sI 25, sI 26, sI 27, sI 28, sI 29, sI 30, sI 31]
def fids : List Nat := [20, 21, 22, 23, 24, 25, 26, 27, 28, 29, 30, 31]
noncomputable def tb0' : Tb := tbN (isV 1 wWhole false)
noncomputable def opn (X : Cx) : Option Stop := stopH tb0' [] 65 (aX X) (hP1 X)
noncomputable def epat (X : Cx) (_ : Unit) : St := ⟨patW [(0, .ptr (X.F.length + 2) 0), (2, .ptr (szX X) 0), (3, lI 0), (4, lI 0), (5, .ptr (szX X + 1) 0)] 53 0, hP1 X ++ [some (.cells (zEL.map .pl) 25 false false), some (.cells shapeL 86 false false)]⟩
def zEs (k : Nat) : RH := List.replicate k (some (.cells (zEL.map .pl) 25 false false))
def rEnt (X : Cx) : List Nat := List.range (szX X + 1) ++ [szX X + 3]
def rAg (X : Cx) : List Nat := List.range (szX X + 2)
def rOut (X : Cx) : List Nat := List.range (szX X)
def keepT (X : Cx) : List SE := [.str 0 (sT 0), .str 1 (sT X.tk), .int 0 (sI X.po), .int 1 (sI X.at_)] ++ X.K
def selfT (X : Cx) : List SE := [.str 0 (sT 0), .str X.tk (sT X.tk), .int X.po (sI X.po), .int X.at_ (sI X.at_)] ++ X.K
def eIds (X : Cx) : List SE := [.str 0 (sT 0), .str 1 (sT 1), .int 0 (sI 0), .int 1 (sI 1)] ++ (X.K ++ fids.map fun j => .int j (lI 0))
def hP0 (X : Cx) : RH := hP X (sT X.tk) (sI X.at_) (sI X.po)
def vc (p : Nat) : Nat := if p = 0 then 5 else if p < 9 then 4 else 2
/-- How many tokens a feature's phrase has, and what they are. -/
def nt (p : Nat) : Nat := if p = 0 then 1 else if p < 9 then 3 else 2
noncomputable def phr (p v : Nat) : List TE :=
  if p = 0 then seqV 1 (v - 1) wordsA 0
  else if p < 9 then seqV 1 (if p < 5 then 5 else 6) wordsA 0 ++ (seqV 2 (v - 1) wordsC 0 ++ seqV 3 (if p < 5 then p - 1 else p - 5) wordsS 0)
  else seqV 1 4 wordsA 0 ++ seqV 2 (p - 9) wordsH 0
def upR (p v : Nat) (i : Nat) : RV := if Nat.beq i p then lI v else sI (20 + i)
def upIds (p v : Nat) : List SE := .int (20 + p) (lI v) :: ((fids.filter fun j => !(Nat.beq j (20 + p))).map fun j => .int j (sI j))
/-- The state behind k further tokens. -/
def tokS (a b c : Nat) (k : Nat) : List SE := [.str a (sT (1 + k)), .int b (if Nat.beq k 0 then sI 0 else sI (39 + 2 * k)), .int c (if Nat.beq k 0 then sI 1 else sI (38 + 2 * k))]
noncomputable def eGood (p v : Nat) (z comma : Bool) : Tb := tbN (⟨.ieq, sI (20 + p), lI 0, bR z⟩ :: (isV (nt p + 1) wComma comma ++ phr p v))
noncomputable def eAgain (X : Cx) (p v : Nat) : Bool := match Nat.ble 1 v && Nat.blt v (vc p) with
  | true => againT (eGood p v true true) [] (hbB (opn X)) (hbK (opn X)) (epat X ()) (.str 0 (sT 0) :: (tokS 1 0 1 (nt p + 1) ++ (upIds p v ++ X.K))) (rAg X) (epat X ())
  | false => true
def upL (p v : Nat) : List RV := [upR p v 0, upR p v 1, upR p v 2, upR p v 3, upR p v 4, upR p v 5, upR p v 6, upR p v 7, upR p v 8, upR p v 9, upR p v 10, upR p v 11]
def upE (p v : Nat) : List RV := [upR p v 0, upR p v 1, upR p v 2, upR p v 3, upR p v 4, upR p v 5, upR p v 6, upR p v 7, upR p v 8, sB' 9, sB' 10, sB' 11]
noncomputable def eLast (p v : Nat) : Tb := { T := ⟨.ieq, sI (20 + p), lI 0, bR true⟩ :: (isV (nt p + 1) wComma false ++ phr p v), U := nextU (sT 0) nxT, Y := [⟨fEar, [.agg (upL p v)], .agg (upE p v)⟩] }
/-- The answer's names: the ear, where, what; and the state. -/
def rR (X : Cx) : RV := .tup [.agg [sI (X.o + 0), sI (X.o + 1), sI (X.o + 2), sI (X.o + 3), sI (X.o + 4), sI (X.o + 5), sI (X.o + 6), sI (X.o + 7), sI (X.o + 8), sB' (X.o + 0), sB' (X.o + 1), sB' (X.o + 2)], sI (X.o + 10), sI (X.o + 11)]
def kR (X : Cx) : RH := hP X (sT (X.o + 1)) (sI (X.o + 12)) (sI (X.o + 13))
def oks : List Nat := [0, 1, 2, 3, 4, 5, 6, 7, 8]
def errS (o : Nat) (at_ : RV) (n : Int) : List SE := .int (o + 10) at_ :: .int (o + 11) (lI n) :: (oks.map (fun i => .int (o + i) (lI 0)) ++ [.bool (o + 0) (bR false), .bool (o + 1) (bR false), .bool (o + 2) (bR false)])
def okS (o p v : Nat) : List SE := .int (o + 10) (lI 0) :: .int (o + 11) (lI 0) :: (oks.map (fun i => .int (o + i) (upR p v i)) ++ [.bool (o + 0) (sB' 9), .bool (o + 1) (sB' 10), .bool (o + 2) (sB' 11)])
noncomputable def eEnd (X : Cx) (p v : Nat) : Bool := match Nat.ble 1 v && Nat.blt v (vc p) with
  | true => outQ (eLast p v) [] 65 (hbB (opn X)) (hbK (opn X)) (epat X ()) (.str 0 (sT 0) :: (tokS (X.o + 1) (X.o + 13) (X.o + 12) (nt p) ++ (okS X.o p v ++ X.K))) (rOut X) (rR X) (kR X)
  | false => true
/-- Where a phrase breaks off: behind k tokens. -/
noncomputable def eBad (X : Cx) (k : Nat) (T : List TE) : Bool := outQ (tbN T) [] 65 (hbB (opn X)) (hbK (opn X)) (epat X ()) (.str 0 (sT 0) :: (tokS (X.o + 1) (X.o + 13) (X.o + 12) k ++ (errS X.o (if Nat.beq k 0 then sI 1 else sI (38 + 2 * k)) 3 ++ X.K))) (rOut X) (rR X) (kR X)
/-- The whole ear. -/
def wholeS (X : Cx) : List SE := .str 0 (sT 0) :: (tokS (X.o + 1) (X.o + 13) (X.o + 12) 1 ++ (errS X.o (lI 0) 0 ++ X.K))
noncomputable def tbD (p v : Nat) : List TE := ⟨.ieq, sI (20 + p), lI 0, bR false⟩ :: phr p v
noncomputable def eTwice (X : Cx) (p v : Nat) : Bool := match Nat.ble 1 v && Nat.blt v (vc p) with
  | true => outQ (tbN (tbD p v)) [] 65 (hbB (opn X)) (hbK (opn X)) (epat X ()) (.str 0 (sT 0) :: (tokS (X.o + 1) (X.o + 13) (X.o + 12) (nt p) ++ (errS X.o (sI 1) 11 ++ X.K))) (rOut X) (rR X) (kR X)
  | false => true
/-- The same names, the same values. -/
def KSame (A B : Val) : Prop := (∀ j, 100 ≤ j → j < 109 → A.I j = B.I j) ∧ ∀ j, 100 ≤ j → j < 103 → A.B j = B.B j
structure Runs0 (X : Cx) : Prop where
  enter : enterH (opn X) (eIds X) (rEnt X) (epat X ()) = true
  bad1 : eBad X 0 (seqV 1 7 wordsA 0) = true
  badH : eBad X 1 (seqV 1 4 wordsA 0 ++ seqV 2 3 wordsH 0) = true
  badE : (allU 2 fun e => eBad X 1 (seqV 1 (5 + e) wordsA 0 ++ seqV 2 3 wordsC 0)) = true
  badS : (allU 2 fun e => allU 3 fun c => eBad X 2 (seqV 1 (5 + e) wordsA 0 ++ (seqV 2 c wordsC 0 ++ seqV 3 4 wordsS 0))) = true
  whole : doneH (tbN (isV 1 wWhole true)) [] 65 (aX X) (hP1 X) (wholeS X) (rOut X) (rR X) (kR X) = true
  keep : mtH (mtO (keepT X) (hP0 X) (rOut X)) (hP0 X) (rOut X) (hP1 X) = true
  nodup : nodupR (rOut X) = true
  kok : ∀ A B : Val, KSame A B → ∀ e, e ∈ X.K → okSE A B e
structure Runs (X : Cx) : Prop extends Runs0 X where
  again : (allU 12 fun p => allU 5 fun v => eAgain X p v) = true
  last : (allU 12 fun p => allU 5 fun v => eEnd X p v) = true
  twice : (allU 12 fun p => allU 5 fun v => eTwice X p v) = true
end Go.Proofs.Z.Ps
