/- A part of the proofs that the laws of layer eight answer true for every input. -/
import Derived.Test.YtjeikabpnplogaaZGF
import Derived.Test.YtjeikabpnplogaaZGI
import Derived.Test.YtjeikabpnplogaaZSX
namespace Go.Proofs.Z
open Go Go.RowKit Go.Proofs Go.Ri Go.Proofs.Z.Fa
/-! The law BookLogs: runs. 632 how many sticks are wanted; list 8 the indices, 741 how many; list 50 the sticks at hand, 750 how many; list 98 nothing; lists 51 and 52 the sticks then, and their first ones; 760 is 0. l: 0 no items, 1 nothing was picked, 2 something was. -/
abbrev fBookLogs : Nat := 6
def blD (wr par many : RV) : List RV := [wr, par, many, .slN 0 8 1]
noncomputable def blQ (wr : RV) (l : Nat) (so : QE) : List QE := [⟨fPool, [wr], poR (!Nat.beq l 0), poHp (!Nat.beq l 0)⟩, ⟨fPick, [if Nat.beq l 0 then nilR else .slN 0 9 20, .slN 0 8 1], pkR (Nat.beq l 2), pkH (Nat.beq l 2)⟩, so]
noncomputable def soP (P : Nat) : QE := ⟨fSticksOf, [wlpR P], .sl 0 0 P 1 none, outB 0 P⟩
noncomputable def soG : QE := ⟨fSticksOf, [wldR], .slN 0 20 1, [some (.lstL 20 tSticks 32)]⟩
noncomputable def uOr (U1 U2 : CallF) : CallF := fun f args h => match U1 f args h with | some x => some x | none => U2 f args h
def lL (l : Nat) : Nat := if Nat.beq l 2 then 19 else 98
/-- The answers of CheckLog: sticks by the list i. -/
def blC (i l : Nat) (par : RV) : List CkE := [⟨i, lL l, par, .tup [sI 770, sI 771]⟩]
def atT (q : Bool) : List TE := [⟨.bin .gtr, sI 741, lI 40, bR q⟩]
/-- m: 0 below 0, 1 beyond 70, 2 within. -/
def mnT (m : Nat) : List TE := [⟨.bin .geq, sI 632, lI 0, bR (!Nat.beq m 0)⟩] ++ if Nat.beq m 0 then [] else [⟨.bin .leq, sI 632, lI 70, bR (Nat.beq m 2)⟩]
noncomputable def blA (wr : RV) (so : QE) (l m i : Nat) (par : RV) (T : List TE) : Tb := { X := saneX, T := atT false ++ (mnT m ++ T), C := [⟨fFew, [wr], bR true⟩], LL := [⟨8, 1, sI 741⟩], U := uOr (qnU (blQ wr l so)) (ckU 98 (blC i l par)) }
/-- At the loop: are there sticks? -/
noncomputable def blH (l : Nat) (nb : Bool) : RH := (if Nat.beq l 2 then [some (.lst 19 tEntry true)] else []) ++ if nb then [some (.lst 50 tStick true)] else []
noncomputable def blP (l : Nat) (nb : Bool) : St := ⟨patW [(1, sI 631), (2, sI 632), (9, if Nat.beq l 2 then .slN 0 19 20 else nilR), (10, if nb then .slN (if Nat.beq l 2 then 1 else 0) 50 32 else nilR)] 83 0, blH l nb⟩
def blS (l : Nat) (par : RV) (L : List SE) : List SE := [.int 631 par, .int 632 (sI 632)] ++ ((if Nat.beq l 2 then [.lst 19 19] else []) ++ L)
def zsK : List RV := (List.range 32).map fun _ => lU 0
/-- The number of blocks ahead of the sticks'. -/
def blB (l : Nat) : Nat := if Nat.beq l 0 then 3 else if Nat.beq l 1 then 4 else 5
def blR (l : Nat) (L : List Nat) : List Nat := (if Nat.beq l 2 then [4] else []) ++ L
end Go.Proofs.Z

namespace Go.Proofs.Z
open Go Go.RowKit Go.Proofs Go.Ri Go.Proofs.Z.Fa
/-! The law BookLogs: runs. -/
/-- Whether the parish is below 0. -/
def ouT (q : Bool) : List TE := [⟨.bin .geq, sI 631, lI 0, bR (!q)⟩] ++ if q then [] else [⟨.bin .lss, sI 631, sI 601, bR false⟩]
noncomputable def ouA (l m : Nat) (q : Bool) : Tb := { blA wldR soG l m 98 (sI 631) (ouT q) with LL := [⟨8, 1, sI 741⟩, ⟨20, 1, sI 601⟩] }
set_option maxRecDepth 100000 in
theorem ou_dir : (allU 3 fun l => allU 2 fun m => all2 fun q => doneQ (ouA l m q) [] fBookLogs (blD wldR (sI 631) (sI 632)) [] [] (bR true) []) = true := by kernel_rfl
end Go.Proofs.Z

namespace Go.Proofs.Z
open Go Go.RowKit Go.Proofs Go.Ri Go.Proofs.Z.Fa
/-! The law BookLogs: runs. -/
set_option maxRecDepth 100000 in
theorem ou_zero : (allU 3 fun l => all2 fun q => doneQ (ouA l 0 q) [true] fBookLogs (blD wldR (sI 631) (lI 0)) [] [] (bR true) []) = true := by kernel_rfl
set_option maxRecDepth 100000 in
theorem ou_ent : (allU 3 fun l => all2 fun q => atH (entN (ouA l 2 q) [] fBookLogs (blD wldR (sI 631) (sI 632))) fBookLogs 0 (blS l (sI 631) []) (blR l []) (blP l false)) = true := by kernel_rfl
/-- len(at) is more than 40, or there are too many of something. -/
noncomputable def blX (fw : Bool) : Tb := { X := saneX, T := atT true, C := [⟨fFew, [wldR], bR fw⟩], LL := [⟨8, 1, sI 741⟩] }
set_option maxRecDepth 100000 in
theorem bl_x : (all2 fun fw => doneQ (blX fw) [] fBookLogs (blD wldR (sI 631) (sI 632)) [] [] (bR true) []) = true := by kernel_rfl
end Go.Proofs.Z

namespace Go.Proofs.Z
open Go Go.RowKit Go.Proofs Go.Ri Go.Proofs.Z.Fa
/-! The law BookLogs: its loop. -/
noncomputable def lpA (nb : Bool) : Tb := { T := [⟨.bin .lss, if nb then sI 750 else lI 0, sI 632, bR true⟩], LL := if nb then [⟨50, 32, sI 750⟩] else [], LA := if nb then [⟨50, zsK, 51⟩] else [] }
noncomputable def lpE (l : Nat) : Tb := { T := [⟨.bin .lss, sI 750, sI 632, bR false⟩], LL := [⟨50, 32, sI 750⟩], LP := [⟨50, 32, none, some (sI 632), 52, 760⟩], U := ckU 98 (blC 52 l (sI 631)) }
/-- The blocks that stay. -/
def lpR (l : Nat) (nb : Bool) : List Nat := if nb then (if Nat.beq l 2 then [0, 3] else [2]) else if Nat.beq l 2 then [0, 2] else [1]
set_option maxRecDepth 100000 in
theorem lp_again : (allU 3 fun l => atH (fromH (lpA true) [] fBookLogs 0 (blP l true)) fBookLogs 0 (blS l (sI 631) [.lst 50 51]) (lpR l true) (blP l true)) = true := by kernel_rfl
set_option maxRecDepth 100000 in
theorem lp_first : (allU 3 fun l => atH (fromH (lpA false) [] fBookLogs 0 (blP l false)) fBookLogs 0 (blS l (sI 631) [.new 50 zsK]) (lpR l false) (blP l true)) = true := by kernel_rfl
set_option maxRecDepth 100000 in
theorem lp_end : (allU 3 fun l => endF (lpE l) fBookLogs (fromH (lpE l) [] fBookLogs 0 (blP l true)) (bR true)) = true := by kernel_rfl
def blX0 : Tb := { X := saneX, C := [⟨fFew, [wldR], bR false⟩], LL := [⟨8, 1, sI 741⟩] }
set_option maxRecDepth 100000 in
theorem bl_x0 : doneQ blX0 [] fBookLogs (blD wldR (sI 631) (sI 632)) [] [] (bR true) [] = true := by kernel_rfl
end Go.Proofs.Z
