/- A part of the proofs that the laws of layer three answer true for every input. -/
import Derived.Test.YtbacimjjelkfbaaGreatDoorZKB
namespace Go.Proofs.Z
open Go Go.RowKit Go.Proofs Go.Ri Go.Proofs.Z.Fa
/-! Apply of both packages: runs, a kind of cuts behind the other. -/
def kY (e c : RV) : List YE := [⟨fCheck, [e], lI 0⟩, ⟨fKCheck, [c], lI 0⟩]
def kY' (e c : RV) : List YE := [⟨fRCheck, [e], lI 0⟩, ⟨fRKCheck, [c], lI 0⟩]
noncomputable def apH (T : List TE) (e c : RV) : Bool := bothG noX T T (kY e c) (kY' e c) fApply fRApply [e, c] earN
noncomputable def apG (T : List TE) (c : RV) : Bool := apH T (earR 0) c
/-- An ear with a known hole. -/
def earH (a : Nat) (h : Bool) : RV := .agg [sI 0, sI 1, sI 2, sI 3, sI 4, sI 5, sI 6, sI 7, sI 8, if Nat.beq a 0 then bR h else sB 0, if Nat.beq a 1 then bR h else sB 1, if Nat.beq a 2 then bR h else sB 2]
/-- A cut of the tip. -/
def tipT (g h : Bool) : List TE := [⟨.bin .geq, sI 0, sI 23, bR g⟩, ⟨.bin .leq, sI 23, sI 0, bR g⟩, ⟨.bin .geq, sI 23, lI 3, bR h⟩]
def tipR : RV := .agg [lI 1, lI 0, lI 0, sI 23]
set_option maxRecDepth 100000 in
theorem tip_run : (all2 fun g => all2 fun h => apG (tipT g h) tipR) = true := by kernel_rfl
/-- A cut of an edge: the slot n, a; m: 0 its left neighbour is cut, 1 its right one is, 2 the tip has taken it, 3 none of these. -/
def slo (n a : Nat) : Nat := 4 * n + 1 + a
def nbT (n a m : Nat) : List TE := (if Nat.beq a 0 then [] else [⟨.ieq, sI (4 * n + a), lI 0, bR (Nat.ble 1 m)⟩]) ++ (if Nat.ble 1 m && Nat.blt a 3 then [⟨.ieq, sI (4 * n + a + 2), lI 0, bR (Nat.ble 2 m)⟩] else [])
def edgT (n a m : Nat) (g z : Bool) : List TE := [⟨.bin .geq, sI (slo n a), sI 23, bR g⟩, ⟨.ieq, sI (slo n a), lI 0, bR z⟩] ++ nbT n a m ++ (if Nat.ble 2 m then [⟨.bin .geq, sI 0, lI 3, bR (Nat.beq m 2)⟩, ⟨.bin .lss, sI 0, lI 3, bR (Nat.beq m 3)⟩] else [])
def edgR (n a : Nat) : RV := .agg [lI 2, lI n, lI a, sI 23]
def badM (a m : Nat) : Bool := (Nat.beq a 0 && Nat.beq m 0) || (Nat.beq a 3 && Nat.beq m 1)
noncomputable def edg1 (n a : Nat) : Bool := allU 4 fun m => badM a m || all2 fun z => all2 fun g => apG (edgT n a m g z) (edgR n a)
set_option maxRecDepth 100000 in
theorem edg_u : (allU 4 fun a => edg1 0 a) = true := by kernel_rfl
set_option maxRecDepth 100000 in
theorem edg_l : (allU 4 fun a => edg1 1 a) = true := by kernel_rfl
/-- A hole is punched; m: 0 there is one, 1 and 2 a slot beside it is a key, 3 neither. -/
def punT (a m : Nat) : List TE := (if Nat.ble 1 m then [⟨.ieq, sI (1 + a), lI 3, bR (Nat.beq m 1)⟩] else []) ++ (if Nat.ble 2 m then [⟨.ieq, sI (5 + a), lI 3, bR (Nat.beq m 2)⟩] else [])
def punR (a : Nat) : RV := .agg [lI 3, lI 0, lI a, lI 0]
set_option maxRecDepth 100000 in
theorem pun_run : (allU 3 fun a => allU 4 fun m => apH (punT a m) (earH a (Nat.beq m 0)) (punR a)) = true := by kernel_rfl
/-- A hole is opened. -/
def opnT (n a m : Nat) (z : Bool) : List TE := [⟨.ieq, sI (slo n a), lI 0, bR z⟩] ++ nbT n a m
def opnR (n a : Nat) : RV := .agg [lI 4, lI n, lI a, lI 0]
noncomputable def opn1 (n a : Nat) : Bool := allU 3 fun m => (Nat.beq a 0 && Nat.beq m 0) || all2 fun z => all2 fun h => apH (opnT n a m z) (earH a h) (opnR n a)
set_option maxRecDepth 100000 in
theorem opn_00 : opn1 0 0 = true := by kernel_rfl
set_option maxRecDepth 100000 in
theorem opn_01 : opn1 0 1 = true := by kernel_rfl
set_option maxRecDepth 100000 in
theorem opn_02 : opn1 0 2 = true := by kernel_rfl
set_option maxRecDepth 100000 in
theorem opn_10 : opn1 1 0 = true := by kernel_rfl
set_option maxRecDepth 100000 in
theorem opn_11 : opn1 1 1 = true := by kernel_rfl
set_option maxRecDepth 100000 in
theorem opn_12 : opn1 1 2 = true := by kernel_rfl
/-! An ear or a cut that is not valid. -/
set_option maxRecDepth 100000 in
theorem ap_ear : bothG noX [] [] [⟨fCheck, [earR 0], lI 10⟩] [⟨fRCheck, [earR 0], lI 10⟩] fApply fRApply [earR 0, cutR] earN = true := by kernel_rfl
set_option maxRecDepth 100000 in
theorem ap_cut : bothG noX [] [] [⟨fCheck, [earR 0], lI 0⟩, ⟨fKCheck, [cutR], lI 30⟩] [⟨fRCheck, [earR 0], lI 0⟩, ⟨fRKCheck, [cutR], lI 30⟩] fApply fRApply [earR 0, cutR] earN = true := by kernel_rfl
end Go.Proofs.Z
