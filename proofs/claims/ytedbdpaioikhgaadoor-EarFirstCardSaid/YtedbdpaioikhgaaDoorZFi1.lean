/- A part of the proofs that the laws of layer one answer true for every input. -/
import Derived.Test.YtedbdpaioikhgaaDoorZLoop3
import Derived.Test.YtedbdpaioikhgaaDoorZLawBij
namespace Go.Proofs.Z.Fi
open Go Go.RowKit Go.Proofs Go.Ri Go.Proofs.Z
/-! EarFirst: its runs. -/
abbrev fFi : Nat := 9
abbrev fPW : Nat := 28
abbrev fPM : Nat := 29
abbrev fWd : Nat := 30
def sT (i : Nat) : RV := .sym .str i
def sU (i : Nat) : RV := .sym (.int .u8) i
def lU (n : Int) : RV := .pl (.int .u8 n)
def lT (l : List UInt8) : RV := .pl (.string ⟨l.toArray⟩)
def cN (o : Nat) : List RV := [sI (o + 0), sI (o + 1), sI (o + 2), sI (o + 3), sI (o + 4), sI (o + 5), sI (o + 6), sI (o + 7), sI (o + 8), sB (o + 0), sB (o + 1), sB (o + 2)]
def earN (o : Nat) : RV := .agg (cN o)
def markN : RV := .agg (cN 220 ++ cN 240)
def zL : List Value := [.int .i64 0, .int .i64 0, .int .i64 0, .int .i64 0, .int .i64 0, .int .i64 0, .int .i64 0, .int .i64 0, .int .i64 0, .bool false, .bool false, .bool false]
def zER : RV := .pl (.agg zL.toArray)
def zMR : RV := .pl (.agg (zL ++ zL).toArray)
def tA : List TE := [⟨.len, sT 0, sT 0, sI 90⟩, ⟨.len, sT 1, sT 1, sI 91⟩, ⟨.bin .gtr, sI 90, lI 3000, bR false⟩, ⟨.bin .gtr, sI 91, lI 3000, bR false⟩]
def tBig (b : Bool) : List TE := if b then [⟨.len, sT 0, sT 0, sI 90⟩, ⟨.bin .gtr, sI 90, lI 3000, bR true⟩] else [⟨.len, sT 0, sT 0, sI 90⟩, ⟨.len, sT 1, sT 1, sI 91⟩, ⟨.bin .gtr, sI 90, lI 3000, bR false⟩, ⟨.bin .gtr, sI 91, lI 3000, bR true⟩]
/-- What is told of a parser's answer (k, e): no error; another error inside; another error at the end; the form at the end; the form inside. -/
def stF (k e u q : Nat) : List TE := match q with
  | 0 => [⟨.ieq, sI e, lI 0, bR true⟩]
  | 1 => [⟨.ieq, sI e, lI 0, bR false⟩, ⟨.bin .lss, sI k, lI 0, bR false⟩, ⟨.bin .gtr, sI k, sI 90, bR false⟩, ⟨.bin .lss, sI k, sI 90, bR true⟩, ⟨.idx, sT 0, sI k, sU u⟩, ⟨.ieq, sU u, lU 32, bR false⟩, ⟨.ieq, sI e, lI 3, bR false⟩]
  | 2 => [⟨.ieq, sI e, lI 0, bR false⟩, ⟨.bin .lss, sI k, lI 0, bR false⟩, ⟨.bin .gtr, sI k, sI 90, bR false⟩, ⟨.bin .lss, sI k, sI 90, bR false⟩, ⟨.ieq, sI e, lI 3, bR false⟩]
  | 3 => [⟨.ieq, sI e, lI 0, bR false⟩, ⟨.bin .lss, sI k, lI 0, bR false⟩, ⟨.bin .gtr, sI k, sI 90, bR false⟩, ⟨.bin .lss, sI k, sI 90, bR false⟩, ⟨.ieq, sI e, lI 3, bR true⟩, ⟨.ieq, sI k, sI 90, bR true⟩]
  | _ => [⟨.ieq, sI e, lI 0, bR false⟩, ⟨.bin .lss, sI k, lI 0, bR false⟩, ⟨.bin .gtr, sI k, sI 90, bR false⟩, ⟨.bin .lss, sI k, sI 90, bR true⟩, ⟨.idx, sT 0, sI k, sU u⟩, ⟨.ieq, sU u, lU 32, bR false⟩, ⟨.ieq, sI e, lI 3, bR true⟩, ⟨.ieq, sI k, sI 90, bR false⟩, ⟨.bin .add, sI k, lI 1, sI (k + 17)⟩]
def yA : List YE := [⟨fPW, [sT 0], .tup [earN 200, sI 1, sI 2]⟩, ⟨fPM, [sT 0], .tup [markN, sI 3, sI 4]⟩]
noncomputable def bigT (b : Bool) : Tb := { X := saneX, T := tBig b }
noncomputable def en1T : Tb := { X := saneX, T := tA ++ stF 1 2 5 4, Y := yA }
noncomputable def en2T (q p : Nat) : Tb := { X := saneX, T := tA ++ (stF 1 2 5 q ++ stF 3 4 25 p), Y := yA }
def dA : List RV := [sT 0, sT 1]
noncomputable def pat (b : Nat) : St := ⟨patW [(0, sT 0), (1, sT 1), (5, lI b), (7, sI 1), (8, sI 2), (9, sI 6)] 128 0, []⟩
/-- The inner loop's head: on, or out for three reasons. -/
def hdF (x : Nat) : List TE := match x with
  | 0 => [⟨.len, sT 0, sT 0, sI 90⟩, ⟨.bin .lss, sI 6, sI 90, bR false⟩]
  | 1 => [⟨.len, sT 0, sT 0, sI 90⟩, ⟨.bin .lss, sI 6, sI 90, bR true⟩, ⟨.idx, sT 0, sI 1, sU 5⟩, ⟨.bin .gtr, sI 10, lI 0, bR false⟩]
  | 2 => [⟨.len, sT 0, sT 0, sI 90⟩, ⟨.bin .lss, sI 6, sI 90, bR true⟩, ⟨.idx, sT 0, sI 1, sU 5⟩, ⟨.bin .gtr, sI 10, lI 0, bR true⟩, ⟨.idx, sT 0, sI 6, sU 15⟩, ⟨.ieq, sI 11, sI 10, bR false⟩]
  | _ => [⟨.len, sT 0, sT 0, sI 90⟩, ⟨.bin .lss, sI 6, sI 90, bR true⟩, ⟨.idx, sT 0, sI 1, sU 5⟩, ⟨.bin .gtr, sI 10, lI 0, bR true⟩, ⟨.idx, sT 0, sI 6, sU 15⟩, ⟨.ieq, sI 11, sI 10, bR true⟩, ⟨.bin .add, sI 6, lI 1, sI 7⟩]
def yW (x : Nat) : List YE := match x with
  | 0 => []
  | 1 => [⟨fWd, [sU 5], sI 10⟩]
  | _ => [⟨fWd, [sU 5], sI 10⟩, ⟨fWd, [sU 15], sI 11⟩]
def ssA : List SSE := [⟨sT 0, lI 0, sI 6, sT 5⟩]
def cutF : List TE := [⟨.bin .add, sT 5, lT [32], sT 6⟩, ⟨.bin .add, sT 6, sT 1, sT 2⟩, ⟨.ieq, sI 1, sI 1, bR true⟩]
def yC1 : YE := ⟨fPW, [sT 2], .tup [zER, sI 1, lI 3]⟩
def yC2 : List YE := [⟨fPW, [sT 2], .tup [earN 260, sI 32, sI 33]⟩, ⟨fPM, [sT 2], .tup [zMR, sI 1, lI 3]⟩]
noncomputable def agT : Tb := { T := hdF 3, Y := yW 3 }
noncomputable def ou1T (x p : Nat) : Tb := { T := hdF x ++ (cutF ++ stF 3 4 25 p), Y := yW x ++ yC1 :: yA, SS := ssA }
noncomputable def ou2T (x : Nat) : Tb := { T := hdF x ++ cutF, Y := yW x ++ yC2, SS := ssA }
/-- What stays, and what is new, from pattern to pattern. -/
def ids : List SE := [.str 0 (sT 0), .str 1 (sT 1)]
def S1 : List SE := .int 1 (sI 1) :: .int 2 (sI 2) :: .int 6 (sI 18) :: ids
def S2 : List SE := .int 1 (sI 3) :: .int 2 (sI 4) :: .int 6 (sI 20) :: ids
def Sag : List SE := .int 1 (sI 1) :: .int 2 (sI 2) :: .int 6 (sI 7) :: ids
noncomputable def B1 : Code := hB en1T [false] fFi dA
noncomputable def K1 : List Fr := hK en1T [false] fFi dA
noncomputable def B2 (x : Nat) : Code := oB (rndT (ou1T x 4) [] B1 K1 (pat 0))
noncomputable def K2 (x : Nat) : List Fr := oK (rndT (ou1T x 4) [] B1 K1 (pat 0))
noncomputable def B3 (q : Nat) : Code := hB (en2T q 4) [false] fFi dA
noncomputable def K3 (q : Nat) : List Fr := hK (en2T q 4) [false] fFi dA
set_option maxRecDepth 100000 in
theorem fi_big : (all2 fun b => doneQ (bigT b) [] fFi dA [] [] (bR true) []) = true := by kernel_rfl
set_option maxRecDepth 100000 in
theorem fi_en1 : enterT en1T [false] fFi dA S1 [] (pat 0) = true := by kernel_rfl
set_option maxRecDepth 100000 in
theorem fi_en2 : (allU 4 fun q => enterT (en2T q 4) [false] fFi dA S2 [] (pat 1)) = true := by kernel_rfl
set_option maxRecDepth 100000 in
theorem fi_dn : (allU 4 fun q => allU 4 fun p => doneQ (en2T q p) [false] fFi dA [] [] (bR true) []) = true := by kernel_rfl
set_option maxRecDepth 100000 in
theorem fi_ag1 : againT agT [] B1 K1 (pat 0) Sag [] (pat 0) = true := by kernel_rfl
set_option maxRecDepth 100000 in
theorem fi_ou1 : (allU 3 fun x => allU 4 fun p => outF (ou1T x p) [] fFi B1 K1 (pat 0) (bR true)) = true := by kernel_rfl
set_option maxRecDepth 100000 in
theorem fi_to2 : (allU 3 fun x => oM (rndT (ou1T x 4) [] B1 K1 (pat 0)) S2 [] (pat 1)) = true := by kernel_rfl
set_option maxRecDepth 100000 in
theorem fi_ag2 : (allU 3 fun x => againT agT [] (B2 x) (K2 x) (pat 1) Sag [] (pat 1)) = true := by kernel_rfl
set_option maxRecDepth 100000 in
theorem fi_ou2 : (allU 3 fun x => allU 3 fun y => outF (ou2T y) [] fFi (B2 x) (K2 x) (pat 1) (bR true)) = true := by kernel_rfl
set_option maxRecDepth 100000 in
theorem fi_ag3 : (allU 4 fun q => againT agT [] (B3 q) (K3 q) (pat 1) Sag [] (pat 1)) = true := by kernel_rfl
set_option maxRecDepth 100000 in
theorem fi_ou3 : (allU 4 fun q => allU 3 fun y => outF (ou2T y) [] fFi (B3 q) (K3 q) (pat 1) (bR true)) = true := by kernel_rfl
/-- The law's word. -/
def wdT (a b c d : Bool) : List TE := [⟨.bin .geq, sU 5, lU 97, bR a⟩, ⟨.bin .leq, sU 5, lU 122, bR b⟩, ⟨.bin .geq, sU 5, lU 48, bR c⟩, ⟨.bin .leq, sU 5, lU 57, bR d⟩]
noncomputable def wdRun (a b c d : Bool) : Bool := runOK noX (wdT a b c d) [] 1000 20 fWd [sU 5] (lI (if a && b then 1 else if c && d then 2 else 0))
set_option maxRecDepth 100000 in
theorem wd_run : (all2 fun a => all2 fun b => all2 fun c => all2 fun d => wdRun a b c d) = true := by kernel_rfl
end Go.Proofs.Z.Fi
