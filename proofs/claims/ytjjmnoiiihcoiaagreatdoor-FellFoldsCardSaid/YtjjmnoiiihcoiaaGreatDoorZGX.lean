/- A part of the proofs that the laws of layer four answer true for every input. -/
import Derived.Test.YtjjmnoiiihcoiaaGreatDoorZGV
import Derived.Test.YtjjmnoiiihcoiaaGreatDoorZGW
namespace Go.Proofs.Z
open Go Go.RowKit Go.Proofs Go.Ri Go.Proofs.Z.Fa
/-! Reach of the specification: runs. -/
abbrev fRReach : Nat := 35
noncomputable def oneE : QE := ⟨fOne, [fellR, sI 20], .slN 0 13 1, [some (.lst 13 tBool true)]⟩
noncomputable def rrE (v : Bool) (c : Nat) (s : Bool) : Tb := { T := agN c 8 ++ agX c s, LL := hLL, C := [⟨fValid, [fellR], bR v⟩] }
noncomputable def rrE8 : Tb := { rrE true 8 true with U := qnU [oneE] }
noncomputable def rrP : St := ⟨patW [(4, .ptr 1 0), (2, sI 22), (3, sI 23), (10, .slN 2 13 1), (11, sI 8)] 53 0, fellB ++ [some (.lst 13 tBool true)]⟩
def rrS (d : RV) (j : Nat) : List SE := .int 8 d :: (idI [0, 1, 20, 22, 23] ++ [.lst 0 0, .lst 13 j])
noncomputable def rrB : Code := hB rrE8 [] fRReach rcD
noncomputable def rrK : List Fr := hK rrE8 [] fRReach rcD
set_option maxRecDepth 100000 in
theorem rr_enter : enterT rrE8 [] fRReach rcD (rrS (sI 22) 13) [0, 1, 2] rrP = true := by kernel_rfl
set_option maxRecDepth 100000 in
theorem rr_err : (allU 8 fun k => all2 fun s => Nat.beq k 2 || Nat.beq k 3 || doneQ (rrE true k s) [] fRReach rcD [] [] (tupN 1) []) = true := by kernel_rfl
set_option maxRecDepth 100000 in
theorem rr_err40 : doneQ { LL := hLL, C := [⟨fValid, [fellR], bR false⟩] } [] fRReach rcD [] [] (tupN 40) [] = true := by kernel_rfl
/-- The end of the days that are looked at: long: more than 16 years. -/
def enT (lg : Bool) : List TE := [⟨.bin .sub, sI 23, sI 22, sI 50⟩, ⟨.bin .gtr, sI 50, lI 5760, bR lg⟩, ⟨.bin .add, sI 22, lI 5760, sI 51⟩]
def rrT (lg b : Bool) : List TE := enT lg ++ [⟨.bin .leq, sI 8, if lg then sI 51 else sI 23, bR b⟩, ⟨.bin .add, sI 8, lI 1, sI 25⟩]
noncomputable def rrU (ne : Bool) : List QE := if ne then [⟨fOn, [fellR, sI 8], .slN 0 11 1, [some (.lst 11 tBool true)]⟩, ⟨fRSpread, [fellR, .slN 0 13 1, .slN 0 11 1], .slN 0 14 1, [some (.lst 14 tBool true)]⟩]
  else [⟨fOn, [fellR, sI 8], nilR, []⟩, ⟨fRSpread, [fellR, .slN 0 13 1, nilR], .slN 0 14 1, [some (.lst 14 tBool true)]⟩]
set_option maxRecDepth 100000 in
theorem rr_again : (all2 fun lg => all2 fun ne => againT { T := rrT lg true, U := qnU (rrU ne) } [] rrB rrK rrP (rrS (sI 25) 14) [0, 1, if ne then 4 else 3] rrP) = true := by kernel_rfl
set_option maxRecDepth 100000 in
theorem rr_out : (all2 fun lg => all2 fun e => outQ { T := rrT lg false, U := qnU [⟨fList, [.slN 0 13 1], (lstA1 e).1, (lstA1 e).2⟩] } [] fRReach rrB rrK rrP (if e then [] else [.lst 9 9]) (if e then [] else [3]) (ogAns 0 (!e)).1 (ogAns 0 (!e)).2) = true := by kernel_rfl
end Go.Proofs.Z
