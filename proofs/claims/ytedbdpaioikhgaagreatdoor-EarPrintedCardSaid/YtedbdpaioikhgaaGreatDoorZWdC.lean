/- A part of the proofs that the laws of layer one answer true for every input. -/
import Derived.Test.YtedbdpaioikhgaaGreatDoorZSpT
import Derived.Test.YtedbdpaioikhgaaGreatDoorZTkL
import Derived.Test.YtedbdpaioikhgaaGreatDoorZCmp3
import Derived.Test.YtedbdpaioikhgaaGreatDoorZEarOf
namespace Go.Proofs.Z.Wd
open Go Go.RowKit Go.Proofs Go.Ri Go.Proofs.Z
open Go.Proofs.Z.Sp (fPhrase fRPhrase)
open Go.Proofs.Z.Ps (wordsA wordsC wordsS wordsH vc nt)
/-! The phrase of a feature: both packages. -/
/-- The phrase of place p with value v. -/
def phB (p v : Nat) : List UInt8 :=
  if p = 0 then wordsA.getD (v - 1) []
  else if p < 9 then wordsA.getD (if p < 5 then 5 else 6) [] ++ 32 :: (wordsC.getD (v - 1) [] ++ 32 :: wordsS.getD (if p < 5 then p - 1 else p - 5) [])
  else wordsA.getD 4 [] ++ 32 :: wordsH.getD (p - 9) []
def ftL (p v : Nat) : List RV :=
  if p = 0 then [lI 1, lI 0, lI 0, lI v]
  else if p < 5 then [lI 2, lI 0, lI (p - 1 : Nat), lI v]
  else if p < 9 then [lI 2, lI 1, lI (p - 5 : Nat), lI v]
  else [lI 3, lI 0, lI (p - 9 : Nat), lI 0]
noncomputable def phRun (f : FuncId) (p v : Nat) : Bool := match Nat.ble 1 v && Nat.blt v (vc p) with
  | true => runOK noX [] [] 1000 20 f [.agg (ftL p v)] (.pl (.string ⟨(phB p v).toArray⟩))
  | false => true
set_option maxRecDepth 100000 in
theorem rph_run : (allU 12 fun p => allU 5 fun v => phRun fRPhrase p v) = true := by kernel_rfl
set_option maxRecDepth 100000 in
theorem ph_run : (allU 12 fun p => allU 5 fun v => phRun fPhrase p v) = true := by kernel_rfl
end Go.Proofs.Z.Wd

namespace Go.Proofs.Z.Wd
open Go Go.RowKit Go.Proofs Go.Ri Go.Proofs.Z
open Go.Proofs.Z.Sp (fPhrase fRPhrase fWords fRWords fJoin)
/-! Words of both packages: runs, by the number of features. -/
def sT (i : Nat) : RV := .sym .str i
def lT (l : List UInt8) : RV := .pl (.string ⟨l.toArray⟩)
def commaB : List UInt8 := [44, 32]
def el4 (j : Nat) : List RV := [sI (100 + 4 * j), sI (101 + 4 * j), sI (102 + 4 * j), sI (103 + 4 * j)]
def ftN : Nat → List RV
  | 0 => []
  | n + 1 => ftN n ++ el4 n
def phY (f : FuncId) : Nat → List YE
  | 0 => []
  | n + 1 => phY f n ++ [⟨f, [.agg (el4 n)], sT (10 + n)⟩]
def acN : Nat → RV
  | 0 => sT 10
  | j + 1 => sT (31 + j)
def acT : Nat → List TE
  | 0 => []
  | 1 => []
  | n + 2 => acT (n + 1) ++ [⟨.bin .add, acN n, lT commaB, sT (51 + n)⟩, ⟨.bin .add, sT (51 + n), sT (11 + n), acN (n + 1)⟩]
noncomputable def ftQ (f : FuncId) (n : Nat) : QE := ⟨f, [earR 0], .tup [.sl 0 0 n 4 none, lI 0], [some (.cells (ftN n) 74 true false)]⟩
noncomputable def rwT (n : Nat) : Tb := { Q := [ftQ fRFeatures n], Y := phY fRPhrase n, T := acT n }
noncomputable def rwRun (n : Nat) : Bool := doneQ (rwT (n + 1)) [true] fRWords [earR 0] [.str 1 (acN n)] [] (.tup [sT 1, lI 0]) []
set_option maxRecDepth 100000 in
theorem rw_run : (allU 12 rwRun) = true := by kernel_rfl
def wholeB : List UInt8 := [119, 104, 111, 108, 101]
noncomputable def w0Run (f g : FuncId) : Bool := doneQ { Y := [⟨g, [earR 0], .pl (.tuple #[.slice none 0 0, .int .i64 0])⟩] } [] f [earR 0] [] [] (.pl (.tuple #[.string ⟨wholeB.toArray⟩, .int .i64 0])) []
noncomputable def wBad (f g : FuncId) : Bool := doneQ { Y := [⟨g, [earR 0], .pl (.tuple #[.slice none 0 0, .int .i64 10])⟩] } [] f [earR 0] [] [] (.pl (.tuple #[.string ⟨#[]⟩, .int .i64 10])) []
set_option maxRecDepth 100000 in
theorem rw0_run : w0Run fRWords fRFeatures = true := by kernel_rfl
set_option maxRecDepth 100000 in
theorem rwb_run : wBad fRWords fRFeatures = true := by kernel_rfl
set_option maxRecDepth 100000 in
theorem w0_run : w0Run fWords fFeatures = true := by kernel_rfl
set_option maxRecDepth 100000 in
theorem wb_run : wBad fWords fFeatures = true := by kernel_rfl
end Go.Proofs.Z.Wd

namespace Go.Proofs.Z.Wd
open Go Go.RowKit Go.Proofs Go.Ri Go.Proofs.Z
open Go.Proofs.Z.Sp (fPhrase fRPhrase fWords fRWords fJoin)
/-! strings.Join as an entry; Words of package ear: runs. -/
structure JE where
  l : List RV
  r : RV
noncomputable def jlook (T : List JE) (cs : List RV) : Option JE :=
  List.rec (motive := fun _ => Option JE) none (fun e _ ih => match eqSs e.l cs with | true => some e | false => ih) T
noncomputable def joinU (T : List JE) : CallF := fun f args h =>
  match Nat.beq f fJoin, args with
  | true, [.sl b 0 n 1 _, .pl (.string sep)] => match sep.data.toList == commaB, lkp h b with
    | true, some (.cells l _ _ _) => match jlook T (l.take n) with
      | some e => match flat0 e.r && Nat.beq e.l.length n with
        | true => some (e.r, h)
        | false => none
      | none => none
    | _, _ => none
  | _, _ => none
def phN : Nat → List RV
  | 0 => []
  | n + 1 => phN n ++ [sT (10 + n)]
noncomputable def wT (n : Nat) : Tb := { Q := [ftQ fFeatures n], Y := phY fPhrase n, U := joinU [⟨phN n, sT 1⟩] }
noncomputable def wRun (n : Nat) : Bool := doneQ (wT (n + 1)) [true] fWords [earR 0] [.str 1 (sT 1)] [] (.tup [sT 1, lI 0]) []
set_option maxRecDepth 100000 in
theorem w_run : (allU 12 wRun) = true := by kernel_rfl
end Go.Proofs.Z.Wd
