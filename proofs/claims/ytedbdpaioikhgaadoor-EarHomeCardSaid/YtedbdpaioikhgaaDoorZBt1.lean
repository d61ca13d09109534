/- A part of the proofs that the laws of layer one answer true for every input. -/
import Derived.Test.YtedbdpaioikhgaaDoorZBt0
namespace Go.Proofs.Z
open Go Go.RowKit Go.Proofs Go.Ri
set_option maxRecDepth 100000 in
theorem b2_eq : ∀ tn ln sn, oB (r12 tn ln sn) = B2
  | true, true, true => rfl
  | true, true, false => by kernel_rfl
  | true, false, true => by kernel_rfl
  | true, false, false => by kernel_rfl
  | false, true, true => by kernel_rfl
  | false, true, false => by kernel_rfl
  | false, false, true => by kernel_rfl
  | false, false, false => by kernel_rfl
set_option maxRecDepth 100000 in
theorem k2_eq : ∀ tn ln sn, oK (r12 tn ln sn) = K2
  | true, true, true => rfl
  | true, true, false => by kernel_rfl
  | true, false, true => by kernel_rfl
  | true, false, false => by kernel_rfl
  | false, true, true => by kernel_rfl
  | false, true, false => by kernel_rfl
  | false, false, true => by kernel_rfl
  | false, false, false => by kernel_rfl
def uU : RV := .sym (.int .u8) 161
/-- How the round cuts: 0: the first of several; 1: one in the middle; 2: the last of several; 3: the only one. -/
def t2s (tn : Bool) : List TE := ⟨.bin .gtr, sI 152, lI 0, bR true⟩ :: ⟨.inb, sI 153, sI 152, bR true⟩ :: ⟨.bin .add, sI 153, lI 1, sI 156⟩ :: ⟨.bin .add, sI 100, lI 1, sI 106⟩ :: (if tn then [⟨.bin .lss, sI 100, lI 0, bR false⟩, ⟨.bin .rem, lI 0, sI 152, sI 153⟩] else [⟨.conv .i64, uU, uU, sI 155⟩, ⟨.bin .rem, sI 155, sI 152, sI 153⟩])
def lz2 (q : Nat) : List Nat := if Nat.beq q 0 then [9] else if Nat.beq q 1 then [] else if Nat.beq q 2 then [10] else [9, 10]
def lb2 (q : Nat) : List LBE := if Nat.beq q 0 then [⟨none, 10, 10⟩] else if Nat.beq q 1 then [⟨none, 9, 9⟩, ⟨some 9, 10, 11⟩] else if Nat.beq q 2 then [⟨none, 9, 9⟩] else []
noncomputable def tb2 (q : Nat) (tn : Bool) : Tb := { LL := [⟨4, 4, sI 152⟩], T := t2s tn, LX := [⟨4, 153, c4⟩], LA := [⟨7, c4, 8⟩], LP := [⟨4, 4, none, some (sI 153), 9, 190⟩, ⟨4, 4, some (sI 156), none, 10, 156⟩], LZ := lz2 q, LB := lb2 q, C := if tn then [] else [⟨fAt, [.slN 0 6 1, sI 100], uU⟩] }
def ids2 (q : Nat) (mn : Bool) : List SE := .int 100 (sI 106) :: .lst 0 0 :: (if mn then .new 7 c4 else .lst 7 8) :: .lst 4 (if Nat.beq q 0 then 10 else if Nat.beq q 1 then 11 else 9) :: eIds
def blk2 (q : Nat) (tn sn mn : Bool) : List Nat :=
  let nb := fl tn + 1 + fl sn + fl mn + 1
  rngN (fl tn + 1) ++ (if sn then [] else [fl tn + 1]) ++ [nb + 1] ++ (if Nat.beq q 3 then [] else [if Nat.beq q 1 then nb + 3 else nb + 2])
noncomputable def btAgain2 (q : Nat) (tn sn mn : Bool) : Bool := againT (tb2 q tn) [] B2 K2 (pat2 tn sn mn false) (ids2 q mn) (blk2 q tn sn mn) (pat2 tn sn false (Nat.beq q 3))
set_option maxRecDepth 100000 in
theorem bt_again2 : (allU 4 fun q => all2 fun tn => all2 fun sn => all2 fun mn => btAgain2 q tn sn mn) = true := by kernel_rfl
noncomputable def tb2e (sn : Bool) : Tb := { X := saneX, C := ⟨fBuild, [.slN 0 7 4], .tup [earR 0, lI 0]⟩ :: (if sn then [] else [⟨fBuild, [.slN 0 0 4], .tup [earR 40, lI 0]⟩, ⟨fSameFeatures, sds, bR true⟩]), Y := if sn then [] else [⟨fCheck, [earR 40], lI 0⟩], Q := if sn then [] else [⟨fFeatures, [earR 40], .tup [.slN 0 0 4, lI 0], [some (.lst 0 47 true)]⟩] }
set_option maxRecDepth 100000 in
theorem bt_out2 : (all2 fun tn => all2 fun sn => outF (tb2e sn) [] fEarBuilt B2 K2 (pat2 tn sn false true) (bR true)) = true := by kernel_rfl
noncomputable def btBad (tn ln : Bool) : Bool := doneQ { X := saneX, Y := [⟨fFeatures, [earR 0], badA⟩, ⟨fCheck, [earR 0], lI 10⟩] } [] fEarBuilt (btArgs tn ln) [] [] (bR true) []
set_option maxRecDepth 100000 in
theorem bt_bad : (all2 fun a => all2 fun b => btBad a b) = true := by kernel_rfl
noncomputable def btZero (tn ln : Bool) : Bool := doneQ { X := saneX } [true, true] fEarBuilt (.pl zE :: (btArgs tn ln).drop 1) [] [] (bR true) []
set_option maxRecDepth 100000 in
theorem bt_zero : (all2 fun a => all2 fun b => btZero a b) = true := by kernel_rfl
/-- The specification's own 'at'. -/
noncomputable def atTb (b : Bool) : Tb := { LL := [⟨0, 1, sI 154⟩], T := ⟨.bin .lss, sI 100, sI 154, bR b⟩ :: (if b then [⟨.inb, sI 100, sI 154, bR true⟩] else []), LX := if b then [⟨0, 100, [uU]⟩] else [] }
set_option maxRecDepth 100000 in
theorem at_run : (all2 fun b => doneQ (atTb b) [] fAt [.slN 0 0 1, sI 100] [.int 161 uU] [] (if b then uU else .pl (.int .u8 0)) []) = true := by kernel_rfl
end Go.Proofs.Z
